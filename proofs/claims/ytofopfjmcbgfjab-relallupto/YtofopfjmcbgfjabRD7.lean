/-
  ref 7: Add.
-/
import Derived.Test.YtofopfjmcbgfjabRD6
namespace Go.Proofs.Ytofopfjmcbgfjab
open Go.RowKit
attribute [local go_sem ↓] Go.wp_at_zero Go.wp_at_succ

set_option maxRecDepth 20000 in
theorem radd7_wid (w : World) (T G : Nat → Prop) (g : Nat) (s : St7) (v : Value) (r : List Int) (Y : World) (h : RR w T g s Y) (hv : Li G Y v r) (hr : r.length ≠ s.wd) :
    Calls Try.prog 18 #[.pointer (some ⟨g, 0, none⟩), v] Y fun e Y' => e = .returned (.tuple #[.bool false, .int .i64 71]) ∧ Y' = Y := by
  obtain ⟨av, iv, P, h⟩ := h
  obtain ⟨c0, c1, c2⟩ := three7 h.b
  obtain ⟨va, vc, rfl⟩ : ∃ a c, v = .slice a r.length c := by obtain ⟨a, c, e, -⟩ := hv; exact ⟨_, _, e⟩
  have hq : ((r.length : Int) == (s.wd : Int)) = false := by simpa using fun e : (r.length : Int) = s.wd => hr (by omega)
  generalize r.length = rn at hq
  clear h hv hr c1 c2
  go_enter Try.func18, Try.ntmps18
  go_wp2
  go_ret2
  exact ⟨rfl, rfl⟩
theorem row7_ne {w : World} {base base' n n' m m' : Nat} {e e' : TypeId} {v v' : Value} {xs xs' : List Value} (h : w.ownsRow base e n v m xs) (h' : w.ownsRow base' e' n' v' m' xs') (hne : e ≠ e') : ∀ b, v.ownBlock = some b → v'.ownBlock ≠ some b := fun b hb hb' => by
  obtain ⟨c, hc⟩ := row7_blk h hb
  obtain ⟨c', hc'⟩ := row7_blk h' hb'
  exact hne (hc.ty hc')
theorem cut7 (t : TypeId) (hT : Try.prog.underlying t = some (.slice (Try.prog.elem t))) (hz : ∀ W, (sizeOf (Try.prog.elem t)).run Try.prog W = .ok 1 W) (a : Option Addr) {n cap k : Nat} (hk : k ≤ n) (W : World) : (Instr.sliceAt t (.slice a n cap) (some (.int .i64 (k : Int))) none none).run Try.prog W = .ok (.slice (if cap = k then a else a.map (·.add (k * 1))) (n - k) (cap - k)) W := by
  rw [run_sliceAt_slice _ _ _ _ _ _ hT, run_slice_l _ _ _ _ _ hT _ _ (by omega) (by omega), hz]
  simp [Result.andThen, sliced]
theorem cutS7 (a : Option Addr) {n cap k : Nat} (hk : k ≤ n) (W : World) : (Instr.sliceAt 48 (.slice a n cap) (some (.int .i64 (k : Int))) none none).run Try.prog W = .ok (.slice (if cap = k then a else a.map (·.add (k * 1))) (n - k) (cap - k)) W := cut7 _ (by kernel_rfl) (fun W => by kernel_rfl) a hk W
theorem cutI7 (a : Option Addr) {n cap k : Nat} (hk : k ≤ n) (W : World) : (Instr.sliceAt 32 (.slice a n cap) (some (.int .i64 (k : Int))) none none).run Try.prog W = .ok (.slice (if cap = k then a else a.map (·.add (k * 1))) (n - k) (cap - k)) W := cut7 _ (by kernel_rfl) (fun W => by kernel_rfl) a hk W
def AdQ (w : World) (T : Nat → Prop) (g : Nat) (s : St7) (r : List Int) (Y : World) (e : Ending) (Y' : World) : Prop := e = .returned (.tuple #[.bool (decide (r ∉ s.rows)), .int .i64 0]) ∧ RPX w T g (ad7 s r) Y Y'
set_option maxRecDepth 20000 in
set_option maxHeartbeats 4000000 in
theorem radd7_any (w : World) (T G : Nat → Prop) (g : Nat) (s : St7) (v : Value) (r : List Int) (Y : World) (h : RR w T g s Y) (hv : Li G Y v r) (hrl : r.length = s.wd) (hl : r.length ≤ 10000000000) (hc : s.rows.length < 10000000000) :
    Calls Try.prog 18 #[.pointer (some ⟨g, 0, none⟩), v] Y (AdQ w T g s r Y) := by
  have HR := hm7 h
  have HV := hm7 hv
  obtain ⟨av, iv, P, h⟩ := h
  have H := hm7 h
  obtain ⟨c0, c1, c2⟩ := three7 h.b
  obtain ⟨aa, ac, ha, hac⟩ := row7_form h.a
  obtain ⟨ia, ic, hi, hic⟩ := row7_form h.i
  obtain ⟨n, hn⟩ : ∃ n, P.length = n := ⟨_, rfl⟩
  have hps : P.length = (srt7 s.rows).length := by rw [← h.p, List.length_map]
  have hin : ((srt7 s.rows).map (part7 s)).length = n := by rw [List.length_map, ← hps, hn]
  rw [hn] at ha hac
  rw [hin] at hi hic
  subst ha hi
  have hnb : n ≤ 10000000000 := by
    have h1 := h.ok.c
    rw [← (srt7_perm _).length_eq] at h1
    omega
  have HW : Hid (w64 r) := by obtain ⟨a, c, -, -, -, h, -⟩ := hv; exact h
  obtain ⟨va, vc, rfl⟩ : ∃ a c, v = .slice a r.length c := by obtain ⟨a, c, e, -⟩ := hv; exact ⟨_, _, e⟩
  have HIN := hm7 hin
  have hwd := h.ok.e
  have HN := hm7 hn
  have HLL : Hid ((srt7 s.rows).length = n) := by show _ = _; omega
  have HP := hm7 (place7_any w T G g s (.slice va r.length vc) r Y HR.out HV.out hrl)
  have HRL := hm7 hrl
  have HSL := hm7 hl
  have HSC := hm7 hc
  rw [hrl] at HP HV ⊢
  clear h hn hps hin hv hl hc hrl
  go_enter Try.func18, Try.ntmps18
  go_upto_region 4 with (go_at_call 32; refine HP.out.mono ?_; rintro e Y1 ⟨k, there, rfl, hpl, m, rfl⟩)
  have HPL := hm7 hpl
  clear HP hpl
  cases there with
  | true =>
    have HM : Hid (r ∈ s.rows) := by
      have h1 := HPL.out.part.1 rfl
      exact (srt7_perm _).mem_iff.1 (List.mem_of_getElem? h1)
    go_wp2
    go_ret2
    have e1 : ad7 s r = s := if_pos HM.out
    refine ⟨by rw [decide_eq_false (by simpa using HM.out)]; rfl, ?_⟩
    rw [e1]
    exact ⟨Fr.of (below_dn7 Y m), T, HR.out.below (below_dn7 Y m), fun b hb => Or.inl hb⟩
  | false =>
    have HM : Hid (r ∉ s.rows) := HPL.out.part.2 rfl
    have hkn : k ≤ n := by have := HPL.out.le; rw [HLL.out] at this; exact this
    have k0 : (0 : Int) ≤ (k : Int) := by omega
    have k1 : k ≤ ac := by omega
    have k2 : k ≤ ic := by omega
    have k3 : (k : Int) ≤ (n : Int) := by omega
    generalize hY1 : Y.drewN m = Y1
    have hb1 : Below Y.heap.size Y Y1 := by rw [← hY1]; exact below_dn7 Y m
    have hz1 : Y1.heap.size = Y.heap.size := by rw [← hY1]; rfl
    have H1 := hm7 (H.out.below hb1)
    have HV1 := hm7 (HV.out.below hb1)
    have HB1 := hm7 hb1
    obtain ⟨d0, d1, d2⟩ := three7 H1.out.b
    clear hY1 hb1 c0 c1 c2 H HR HV
    have HA : Hid (Y1.ownsRow w.heap.size 32 1 (.slice aa n ac) n (P.map Prod.snd)) := by have := H1.out.a; rw [HN.out] at this; exact this
    have HI : Hid (Y1.ownsRow w.heap.size 3 1 (.slice ia n ic) n (ibs7 ((srt7 s.rows).map (part7 s)))) := by have := H1.out.i; unfold OwI at this; rw [HIN.out] at this; exact this
    have HOC : Hid (∀ u ∈ P.map Prod.snd, u.oneCell' = true) := fun u hu => by
      obtain ⟨p, hp, rfl⟩ := List.mem_map.1 hu
      obtain ⟨a, c, e, -⟩ := H1.out.r p hp
      rw [e]; rfl
    go_upto_region 9 with (at_builtin; refine gappM Try.underlying48 Try.infoInts7 rfl (by omega) rfl _ _ rfl Y1.heap.size (.slice none 0 0) 0 [] rfl (World.ownsRow_nil _ _ _ _) (.slice aa k ac) k ((P.map Prod.snd).take k) rfl (src_take HA.out hkn) (fun u hu => HOC.out u (List.mem_of_mem_take hu)) (by omega) (Nat.le_refl _) ?_; intro v8 w8 ho8 hg8 hv8; rw [Nat.zero_add, List.nil_append] at ho8; obtain ⟨a8, q8, hv8', -⟩ := row7_form ho8; subst hv8'; have HO8 := hm7 ho8; have hb8 : Below Y1.heap.size Y1 w8 := (Fr.grown (P := fun _ => False) hg8 fun b hb => by cases hb).below fun _ _ h => h; have HB8 := hm7 hb8; obtain ⟨e0, e1, e2⟩ := three7 (H1.out.b.below hb8); clear ho8 hg8 hv8 hb8)
    clear d0 d1 d2
    have hs8 := HB8.out.size
    go_upto_region 10 with (at_builtin; refine gappM Try.underlying32 Try.infoInt7 rfl (by omega) rfl _ _ rfl Y1.heap.size (.slice none 0 0) 0 [] rfl (World.ownsRow_nil _ _ _ _) (.slice ia k ic) k ((ibs7 ((srt7 s.rows).map (part7 s))).take k) rfl (src_take (row7_below HI.out HB8.out) hkn) (fun u hu => ibs7_one _ u (List.mem_of_mem_take hu)) (by omega) hs8 ?_; intro v9 w9 ho9 hg9 hv9; rw [Nat.zero_add, List.nil_append] at ho9; obtain ⟨a9, q9, hv9', -⟩ := row7_form ho9; subst hv9'; have HO9 := hm7 ho9; have hb9 : Below w8.heap.size w8 w9 := (Fr.grown (P := fun _ => False) hg9 fun b hb => by cases hb).below fun _ _ h => h; have HB9 := hm7 (HB8.out.trans (hb9.mono hs8)); have HB89 := hm7 hb9; obtain ⟨f0, f1, f2⟩ := three7 (H1.out.b.below HB9.out); clear ho9 hg9 hv9 hb9)
    clear e0 e1 e2
    have hs9 := HB9.out.size
    have hs89 := HB89.out.size
    have HC := hm7 (copied7_any G (.slice va s.wd vc) r w9 (HV1.out.below HB9.out) (by have := HSL.out; omega))
    go_upto_region 11 with (first | (go_at_call 33; refine HC.out.mono ?_; rintro e w10 ⟨cv, rfl, hoc, hbc⟩; obtain ⟨ca, cc, hcv, -⟩ := row7_form hoc; rw [HRL.out] at hcv; subst hcv; have HOC10 := hm7 hoc; have HBC := hm7 hbc; clear hoc hbc) | (at_builtin; refine gapp Try.underlying48 Try.infoInts7 rfl (by omega) rfl _ _ rfl Y1.heap.size (.slice a8 k q8) k ((P.map Prod.snd).take k) rfl (row7_below (row7_below (row7_below HO8.out HB89.out) HBC.out) (below1 _ _)) w10.heap.size (.slice ca s.wd cc) rfl (Bk.new _ _ _) rfl (by omega) (by have := HBC.out.size; simp; omega) ?_; intro g11 q11 w11 ho11 hg11 hv11 hl11; have HO11 := hm7 ho11; have HG11 := hm7 hg11; have HV11 := hm7 hv11; clear ho11 hg11 hv11))
    have hf11 : Fr (fun b => (Value.slice a8 k q8).ownBlock = some b) w9 w11 := ((Fr.of HBC.out).then (below1 _ _)).trans (Fr.grown HG11.out fun b hb => hb) fun _ _ h => h
    have HB11 : Hid (Below Y1.heap.size Y1 w11) := HB9.out.trans (Fr.low (hf11.mono (Q := fun b => Y1.heap.size ≤ b) fun b _ hb => (HO8.out.lt b hb).1) hs9)
    have HI11 : Hid (w11.ownsRow Y1.heap.size 3 1 (.slice a9 k q9) k ((ibs7 ((srt7 s.rows).map (part7 s))).take k)) := row7_fr HO9.out hf11 fun b hb => row7_ne HO9.out (row7_below HO8.out HB89.out) (by decide) b hb
    have hs11 := HB11.out.size
    have HF11 := hm7 hf11
    clear hf11 f0 f1 f2 hl11
    obtain ⟨e0, e1, e2⟩ := three7 (H1.out.b.below HB11.out)
    go_upto_region 12 with (at_builtin; refine gapp Try.underlying32 Try.infoInt7 rfl (by omega) rfl _ _ rfl Y1.heap.size (.slice a9 k q9) k ((ibs7 ((srt7 s.rows).map (part7 s))).take k) rfl (row7_below HI11.out (below1 _ _)) w11.heap.size (.int .i64 4) rfl (Bk.new _ _ _) rfl (by omega) (by simp; omega) ?_; intro g12 q12 w12 ho12 hg12 hv12 hl12; have HO12 := hm7 ho12; have HG12 := hm7 hg12; have HV12 := hm7 hv12; clear ho12 hg12 hv12 hl12)
    have hf12 : Fr (fun b => (Value.slice a9 k q9).ownBlock = some b) w11 w12 := (Fr.of (below1 _ _)).trans (Fr.grown HG12.out fun b hb => hb) fun _ _ h => h
    have HB12 : Hid (Below Y1.heap.size Y1 w12) := HB11.out.trans (Fr.low (hf12.mono (Q := fun b => Y1.heap.size ≤ b) fun b _ hb => (HO9.out.lt b hb).1) hs11)
    have HA12 : Hid (w12.ownsRow Y1.heap.size 32 1 (.slice (some ⟨g11, 0, none⟩) (k + 1) q11) (k + 1) ((P.map Prod.snd).take k ++ [.slice ca s.wd cc])) := row7_fr HO11.out hf12 fun b hb => row7_ne HO11.out HI11.out (by decide) b hb
    have hs12 := HB12.out.size
    have HF12 := hm7 hf12
    have HBK12 := hm7 (H1.out.b.below HB12.out)
    clear hf12 e0 e1 e2
    obtain ⟨e0, e1, e2⟩ := three7 HBK12.out
    have b12 := HBK12.out.froz 1
    have hkl : k + 1 + (n - k) = n + 1 := by omega
    obtain ⟨dv, hdv⟩ : ∃ dv, Value.slice (if ac = k then aa else aa.map (·.add (k * 1))) (n - k) (ac - k) = dv := ⟨_, rfl⟩
    have HSD := hm7 (src_drop (row7_below HA.out HB12.out) hkn)
    have hcut : ∀ W, (Instr.sliceAt 48 (.slice aa n ac) (some (.int .i64 (k : Int))) none none).run Try.prog W = .ok dv W := fun W => by rw [cutS7 aa hkn W, hdv]
    rw [hdv] at HSD
    clear hdv
    go_upto_region 13 with (at_builtin; refine gappM Try.underlying48 Try.infoInts7 rfl (by omega) rfl _ _ rfl Y1.heap.size (.slice (some ⟨g11, 0, none⟩) (k + 1) q11) (k + 1) _ rfl HA12.out dv (n - k) ((P.map Prod.snd).drop k) rfl HSD.out (fun u hu => HOC.out u (List.mem_of_mem_drop hu)) (by omega) hs12 ?_; intro v13 w13 ho13 hg13 hv13; rw [hkl] at ho13; obtain ⟨a13, q13, hv13', -⟩ := row7_form ho13; subst hv13'; have HO13 := hm7 ho13; have HG13 := hm7 hg13; have HV13 := hm7 hv13; have HB13 : Hid (Below Y1.heap.size Y1 w13) := HB12.out.trans (Fr.low (Fr.grown hg13 fun b hb => by have e : g11 = b := by {simpa [Value.ownBlock] using hb}; rw [← e]; exact (HA12.out.lt g11 rfl).1) hs12); have hbk13 := H1.out.b.below HB13.out; have b13 := hbk13.froz 1; obtain ⟨x0, x1, x2⟩ := three7 hbk13; have HBK13 := hm7 hbk13; clear ho13 hg13 hv13 hbk13)
    have hg : g < Y1.heap.size := H1.out.b.lt
    have hz13 := HB13.out.size
    generalize hW14 : w13.setCell ⟨g, 1, none⟩ (.slice a13 (n + 1) q13) = W14
    have hz14 : W14.heap.size = w13.heap.size := by rw [← hW14]; simp
    have HBK14 : Hid (Bk W14 g #[.int .i64 (s.wd : Int), .slice a13 (n + 1) q13, .slice ia n ic] 66) := by rw [← hW14]; exact HBK13.out.set 1 _
    have hset : Fr (fun b => b = g) w13 W14 := by rw [← hW14]; exact (Fr.refl _ _).set (Or.inl rfl)
    have hf13 : Fr (fun b => b = g11) w12 w13 := Fr.grown HG13.out fun b hb => by simpa [Value.ownBlock, eq_comm] using hb
    have HI14 : Hid (W14.ownsRow Y1.heap.size 3 1 (.slice (some ⟨g12, 0, none⟩) (k + 1) q12) (k + 1) ((ibs7 ((srt7 s.rows).map (part7 s))).take k ++ [.int .i64 4])) :=
      row7_fr (row7_fr HO12.out hf13 fun b hb e => row7_ne HO12.out HA12.out (by decide) b hb (by rw [e]; rfl)) hset fun b hb e => by
        have := (HO12.out.lt b hb).1
        omega
    have HA14 : Hid (W14.ownsRow Y1.heap.size 32 1 (.slice a13 (n + 1) q13) (n + 1) ((P.map Prod.snd).take k ++ [.slice ca s.wd cc] ++ (P.map Prod.snd).drop k)) := row7_fr HO13.out hset fun b hb e => by
      have := (HO13.out.lt b hb).1
      omega
    have HS14 : Hid (W14.ownsRow w.heap.size 3 1 (.slice ia n ic) n (ibs7 ((srt7 s.rows).map (part7 s)))) := row7_fr (row7_below HI.out HB13.out) hset fun b hb e => (H1.out.apart hb).1 e
    have HFS := hm7 hset
    have HF13 := hm7 hf13
    clear hW14 x0 x1 x2 e0 e1 e2 b12 b13 hset hf13 hcut HSD
    obtain ⟨e0, e1, e2⟩ := three7 HBK14.out
    have b14 := HBK14.out.froz 2
    obtain ⟨dw, hdw⟩ : ∃ dv, Value.slice (if ic = k then ia else ia.map (·.add (k * 1))) (n - k) (ic - k) = dv := ⟨_, rfl⟩
    have HSD := hm7 (src_drop HS14.out hkn)
    have hcut : ∀ W, (Instr.sliceAt 32 (.slice ia n ic) (some (.int .i64 (k : Int))) none none).run Try.prog W = .ok dw W := fun W => by rw [cutI7 ia hkn W, hdw]
    rw [hdw] at HSD
    clear hdw
    go_upto_region 14 with (at_builtin; refine gappM Try.underlying32 Try.infoInt7 rfl (by omega) rfl _ _ rfl Y1.heap.size (.slice (some ⟨g12, 0, none⟩) (k + 1) q12) (k + 1) _ rfl HI14.out dw (n - k) ((ibs7 ((srt7 s.rows).map (part7 s))).drop k) rfl HSD.out (fun u hu => ibs7_one _ u (List.mem_of_mem_drop hu)) (by omega) (by omega) ?_; intro v15 w15 ho15 hg15 hv15; rw [hkl] at ho15; obtain ⟨a15, q15, hv15', -⟩ := row7_form ho15; subst hv15'; have HO15 := hm7 ho15; have HV15 := hm7 hv15; have HF15 : Hid (Fr (fun b => b = g12) W14 w15) := Fr.grown hg15 (fun b hb => by simpa [Value.ownBlock, eq_comm] using hb); have hbk15 := HBK14.out.fr HF15.out (fun e => by have := (HI14.out.lt g12 rfl).1; omega); have b15 := hbk15.froz 2; obtain ⟨x0, x1, x2⟩ := three7 hbk15; have HBK15 := hm7 hbk15; clear ho15 hg15 hv15 hbk15)
    go_wp2
    go_ret2
    have hz9 : w9.heap.size ≤ w10.heap.size := HBC.out.size
    have h12 : Y1.heap.size ≤ g12 := (HI14.out.lt g12 rfl).1
    have h11 : g11 < w9.heap.size ∨ w10.heap.size ≤ g11 := by
      rcases HV11.out with e | e
      · left; have := ((row7_below HO8.out HB89.out).lt g11 e).2; exact this
      · right; rw [e]; simp
    have hz12 : w10.heap.size ≤ w11.heap.size := Nat.le_trans (by simp) HG11.out.size
    have h12' : g12 < w9.heap.size ∨ w10.heap.size ≤ g12 := by
      rcases HV12.out with e | e
      · left; exact (HO9.out.lt g12 e).2
      · right; rw [e]; simp; omega
    have hzx : w10.heap.size ≤ W14.heap.size := by
      have := HF12.out.size
      have := HF13.out.size
      omega
    have hz15 := HF15.out.size
    have hFg : Fr (fun b => b = g) Y1 (w15.setCell ⟨g, 2, none⟩ (.slice a15 (n + 1) q15)) := Fr.set (((Fr.of HB13.out).trans HFS.out fun _ _ h => h).trans HF15.out fun b hb e => by omega) (Or.inl rfl)
    have hFc : Fr (fun b => b < w9.heap.size ∨ w10.heap.size ≤ b) w10 (w15.setCell ⟨g, 2, none⟩ (.slice a15 (n + 1) q15)) := by
      refine Fr.set ?_ (Or.inl (Or.inl (by omega)))
      refine Fr.trans (Q := fun b => b = g12) ?_ HF15.out fun b _ e => by rw [e]; exact h12'
      refine Fr.trans (Q := fun b => b = g) ?_ HFS.out fun b _ e => Or.inl (by omega)
      refine Fr.trans (Q := fun b => b = g11) ?_ HF13.out fun b _ e => by rw [e]; exact h11
      refine Fr.trans ?_ HF12.out fun b _ e => Or.inl (HO9.out.lt b e).2
      exact ((Fr.of (below1 _ _))).trans (Fr.grown HG11.out fun b hb => hb) fun b _ e => Or.inl ((row7_below HO8.out HB89.out).lt b e).2
    have h15 : ∀ b, (Value.slice a15 (n + 1) q15).ownBlock = some b → Y1.heap.size ≤ b ∧ (b < w9.heap.size ∨ w10.heap.size ≤ b) := fun b hb => by
      rcases HV15.out with e | e
      · rw [e] at hb
        have e2 : g12 = b := by simpa [Value.ownBlock] using hb
        rw [← e2]; exact ⟨h12, h12'⟩
      · rw [e] at hb
        have e2 : W14.heap.size = b := by simpa using hb
        exact ⟨by omega, Or.inr (by omega)⟩
    have hAf := row7_fr (row7_fr HA14.out HF15.out fun b hb e => row7_ne HA14.out HI14.out (by decide) b hb (by rw [e]; rfl)) (Fr.set (i := 2) (v := .slice a15 (n + 1) q15) (Fr.refl (fun b => b = g) w15) (Or.inl rfl)) fun b hb e => by have := (HA14.out.lt b hb).1; omega
    have hIf := row7_fr HO15.out (Fr.set (i := 2) (v := .slice a15 (n + 1) q15) (Fr.refl (fun b => b = g) w15) (Or.inl rfl)) fun b hb e => by have := (HO15.out.lt b hb).1; omega
    have hBf := HBK15.out.set 2 (.slice a15 (n + 1) q15)
    have hok := Add7.ok H1.out.ok HM.out HW.out HRL.out HSL.out HSC.out
    have hz16 : (w15.setCell ⟨g, 2, none⟩ (.slice a15 (n + 1) q15)).heap.size = w15.heap.size := by simp
    refine ⟨by rw [decide_eq_true HM.out]; rfl, ?_⟩
    rw [show ad7 s r = Add7 s r from if_neg HM.out]
    generalize w15.setCell ⟨g, 2, none⟩ (.slice a15 (n + 1) q15) = Z at *
    have hw1 := H1.out.be.size
    refine ⟨((Fr.of HB1.out).trans hFg fun _ _ h => h).mono fun b _ e => by rw [e]; exact H1.out.tg, fun b => T b ∨ (Y.heap.size ≤ b ∧ b < Z.heap.size), ⟨.slice a13 (n + 1) q13, .slice a15 (n + 1) q15, P.take k ++ (r, .slice ca s.wd cc) :: P.drop k, ⟨hok, hBf, ?_, ?_, ?_, ?_, ?_, ?_, Or.inl H1.out.tg, ?_, ?_⟩⟩, fun b hb => hb.elim Or.inl fun h => Or.inr h.1⟩
    · have e1 : (P.take k ++ (r, Value.slice ca s.wd cc) :: P.drop k).length = n + 1 := by have := HN.out; simp; omega
      have e2 : (P.take k ++ (r, Value.slice ca s.wd cc) :: P.drop k).map Prod.snd = (P.map Prod.snd).take k ++ [.slice ca s.wd cc] ++ (P.map Prod.snd).drop k := by simp
      rw [e1, e2]
      exact row7_mono hAf hw1
    · unfold OwI
      rw [parts7_add H1.out.ok hok HPL.out]
      have e1 : (((srt7 s.rows).map (part7 s)).take k ++ [4] ++ ((srt7 s.rows).map (part7 s)).drop k).length = n + 1 := by have := HLL.out; simp; omega
      have e2 : ibs7 (((srt7 s.rows).map (part7 s)).take k ++ [4] ++ ((srt7 s.rows).map (part7 s)).drop k) = (ibs7 ((srt7 s.rows).map (part7 s))).take k ++ [.int .i64 4] ++ (ibs7 ((srt7 s.rows).map (part7 s))).drop k := by unfold ibs7; simp
      rw [e1, e2]
      exact row7_mono hIf hw1
    · rw [show (Add7 s r).rows = s.rows ++ [r] from rfl, HPL.out.add, ← H1.out.p]
      simp
    · intro p hp
      have hold : ∀ p ∈ P, Li (fun b => (T b ∨ (Y.heap.size ≤ b ∧ b < Z.heap.size)) ∧ b ≠ g ∧ (Value.slice a15 (n + 1) q15).ownBlock ≠ some b) Z p.2 p.1 := fun p hp => by
        refine (Li.fr ((H1.out.r p hp).mono (G := fun b => T b ∧ b ≠ g ∧ b < Y1.heap.size) fun b hl hb => ⟨hb.1, hb.2.1, hl⟩) hFg fun b _ hb e => hb.2.1 e).mono fun b _ hb => ⟨Or.inl hb.1, hb.2.1, fun e => ?_⟩
        have := (h15 b e).1
        omega
      rcases List.mem_append.1 hp with hp | hp
      · exact hold p (List.mem_of_mem_take hp)
      · rcases List.mem_cons.1 hp with rfl | hp
        · refine (Li.fr ((OwI.li HOC10.out HW.out).mono (G := fun b => w9.heap.size ≤ b ∧ b < w10.heap.size) fun b hl hb => ⟨hb.1, hl⟩) hFc fun b _ hb e => by omega).mono fun b hl hb => ⟨Or.inr ⟨by omega, hl⟩, by omega, fun e => ?_⟩
          have := (h15 b e).2
          omega
        · exact hold p (List.mem_of_mem_drop hp)
    · intro b hb
      have := hAf.lt b hb
      exact Or.inr ⟨by omega, this.2⟩
    · intro b hb
      have := hIf.lt b hb
      exact Or.inr ⟨by omega, this.2⟩
    · intro b hb
      rcases hb with hb | hb
      · exact ⟨(H1.out.t b hb).1, Nat.lt_of_lt_of_le (H1.out.t b hb).2 hFg.size⟩
      · exact ⟨by omega, hb.2⟩
    · exact H1.out.be.trans (Fr.low (hFg.mono (Q := fun b => w.heap.size ≤ b) fun b _ e => by rw [e]; exact (H1.out.t g H1.out.tg).1) hw1)
end Go.Proofs.Ytofopfjmcbgfjab
