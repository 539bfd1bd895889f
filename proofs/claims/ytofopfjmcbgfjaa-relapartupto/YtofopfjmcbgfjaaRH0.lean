/-
  rel: Rows, and law 7's given, told in full. (Written by RH0.py out of RA22.)
-/
import Derived.Test.YtofopfjmcbgfjaaRC2
namespace Go.Proofs.Ytofopfjmcbgfjaa
open Go.RowKit Go.Shelf

/-- A list of rows that a call makes: each row in a block of its own. -/
structure OD (w : World) (B : Nat) (v : Value) (P : List (List Int × Value)) : Prop where
  o : w.ownsRow B 23 1 v P.length (P.map Prod.snd)
  l : ∀ p ∈ P, OwI w B p.2 p.1 ∧ w64 p.1
  n : ∀ p ∈ P, ∀ b, p.2.ownBlock = some b → v.ownBlock ≠ some b
  d : (P.map Prod.snd).Pairwise fun p q => ∀ b, p.ownBlock = some b → q.ownBlock ≠ some b
theorem OD.nil (w : World) (B : Nat) : OD w B (.slice none 0 0) [] := ⟨World.ownsRow_nil _ _ _ _, by simp, by simp, List.Pairwise.nil⟩
theorem OD.fr {Pd : Nat → Prop} {w w' : World} {B : Nat} {v : Value} {P : List (List Int × Value)} (h : OD w B v P) (hf : Fr Pd w w') (hn : ∀ b, B ≤ b → b < w.heap.size → ¬ Pd b) : OD w' B v P :=
  ⟨row7_fr h.o hf fun g hg => hn g (h.o.lt g hg).1 (h.o.lt g hg).2, fun p hp => ⟨row7_fr (h.l p hp).1 hf fun g hg => hn g (World.ownsRow.lt (h.l p hp).1 g hg).1 (World.ownsRow.lt (h.l p hp).1 g hg).2, (h.l p hp).2⟩, h.n, h.d⟩
theorem OD.below {w w' : World} {B : Nat} {v : Value} {P : List (List Int × Value)} (h : OD w B v P) (hb : Below w.heap.size w w') : OD w' B v P := h.fr (Pd := fun _ => False) (Fr.of hb) fun _ _ _ h => h
theorem OD.put {w : World} {B k : Nat} {o : Obj} {v : Value} {P : List (List Int × Value)} (h : OD w B v P) (hk : k < B) : OD (w.putObj k o) B v P :=
  h.fr (Pd := fun b => b = k) ⟨rfl, rfl, rfl, by simp, fun _ _ hn => World.putObj_heap_other hn⟩ fun b hb _ e => by omega
theorem OD.ol {w : World} {B : Nat} {v : Value} {P : List (List Int × Value)} (h : OD w B v P) : OL w B v P := ⟨h.o, fun p hp => (OwI.li (h.l p hp).1 (h.l p hp).2).mono fun b _ hb => ⟨hb.1, h.n p hp b hb.2⟩⟩
/-- One row more. -/
theorem OD.more {w w5 : World} {B B0 g2 c2 n : Nat} {v u : Value} {P : List (List Int × Value)} {x : List Int} (h : OD w B v P) (hn : P.length = n) (hB : B ≤ B0) (hu : OwI w B0 u x) (hP : ∀ p ∈ P, ∀ b, p.2.ownBlock = some b → b < B0) (hvb : ∀ b, v.ownBlock = some b → b < B0) (hw : w64 x)
    (ho : w5.ownsRow B 23 1 (.slice (some ⟨g2, 0, none⟩) (n + 1) c2) (n + 1) (P.map Prod.snd ++ [u])) (hg : (w.alloc (.cells #[u] 23)).grownBy w5 v.ownBlock) (hv : v.ownBlock = some g2 ∨ g2 = (w.alloc (.cells #[u] 23)).heap.size) :
    OD w5 B (.slice (some ⟨g2, 0, none⟩) (n + 1) c2) (P ++ [(x, u)]) := by
  have hfr : Fr (fun b => v.ownBlock = some b) w w5 := (Fr.of (below1 _ _)).tr (Fr.grown hg fun b hb => hb)
  have ht : ∀ b, (Value.slice (some ⟨g2, 0, none⟩) (n + 1) c2).ownBlock = some b → b = g2 := fun b e => (by simpa [Value.ownBlock] using e : g2 = b).symm
  have hz : ∀ (z : Value) (y : List Int), OwI w B z y → (∀ b, z.ownBlock = some b → v.ownBlock ≠ some b) → OwI w5 B z y ∧ ∀ b, z.ownBlock = some b → (Value.slice (some ⟨g2, 0, none⟩) (n + 1) c2).ownBlock ≠ some b := fun z y h1 h2 => by
    refine ⟨row7_fr h1 hfr fun b hb hc => h2 b hb hc, fun b hb hc => ?_⟩
    have e := ht b hc
    subst e
    rcases hv with hv | hv
    · exact h2 _ hb hv
    · have := (World.ownsRow.lt h1 _ hb).2
      simp at hv
      omega
  have hub : ∀ b, u.ownBlock = some b → B0 ≤ b := fun b hb => (World.ownsRow.lt hu b hb).1
  have hu2 := hz u x (hu.mono hB) fun b hb hc => by have h1 := hub b hb; have h2 := hvb b hc; omega
  refine ⟨?_, fun p hp => ?_, fun p hp => ?_, ?_⟩
  · rw [List.length_append, List.map_append, hn]; exact ho
  · rcases List.mem_append.1 hp with hp | hp
    · exact ⟨(hz _ _ (h.l p hp).1 (h.n p hp)).1, (h.l p hp).2⟩
    · rw [List.mem_singleton] at hp; subst hp; exact ⟨hu2.1, hw⟩
  · rcases List.mem_append.1 hp with hp | hp
    · exact (hz _ _ (h.l p hp).1 (h.n p hp)).2
    · rw [List.mem_singleton] at hp; subst hp; exact hu2.2
  · rw [List.map_append, List.pairwise_append]
    refine ⟨h.d, by simp, fun p hp q hq b hb hc => ?_⟩
    obtain ⟨p', hp', rfl⟩ := List.mem_map.1 hp
    simp only [List.map_cons, List.map_nil, List.mem_singleton] at hq
    subst hq
    have h1 := hP p' hp' b hb
    have h2 := hub b hc
    omega
/-- How far Rows has come: w0 its own beginning, bx the block of its list. -/
structure RJ (w0 : World) (g : Nat) (F S : Nat → Prop) (m : Nat) (s : St7) (H bx E : Nat) (pre : List (List Int)) (W : World) (F' : Nat → Prop) (v : Value) (P : List (List Int × Value)) : Prop where
  r : RM W g F' S (m + 1) s
  a : ∀ b, F b → F' b
  d : ∀ b, F' b → (F b ∨ H ≤ b) ∧ b < E
  f : Fr F w0 W
  x : Bk W bx #[v] 29
  q : OD W E v P
  p : P.map Prod.fst = pre
  e : H ≤ E
  e2 : E ≤ W.heap.size
theorem RJ.below {w0 : World} {g : Nat} {F S : Nat → Prop} {m : Nat} {s : St7} {H bx E : Nat} {pre : List (List Int)} {W W' : World} {F' : Nat → Prop} {v : Value} {P : List (List Int × Value)} (h : RJ w0 g F S m s H bx E pre W F' v P) (hb : Below W.heap.size W W') : RJ w0 g F S m s H bx E pre W' F' v P :=
  ⟨h.r.below hb, h.a, h.d, h.f.then hb, h.x.below hb, h.q.below hb, h.p, h.e, Nat.le_trans h.e2 hb.size⟩
theorem RJ.put {w0 : World} {g : Nat} {F S : Nat → Prop} {m : Nat} {s : St7} {H bx E : Nat} {pre : List (List Int)} {W : World} {F' : Nat → Prop} {v : Value} {P : List (List Int × Value)} (h : RJ w0 g F S m s H bx E pre W F' v P) (k : Nat) (o : Obj) (h1 : w0.heap.size ≤ k) (h2 : k < H) (h3 : k ≠ bx) (hF : ∀ b, F b ∨ S b → b < w0.heap.size) : RJ w0 g F S m s H bx E pre (W.putObj k o) F' v P := by
  have ht : ∀ b, b ≠ k → (W.putObj k o).heap[b]? = W.heap[b]? := fun b hb => World.putObj_heap_other hb
  have he := h.e
  refine ⟨h.r.same (by simp) fun b hb _ => ht b fun e => ?_, h.a, h.d, ⟨h.f.os, h.f.tape, h.f.output, by simpa using h.f.size, fun b hb hn => (ht b (by omega)).trans (h.f.block b hb hn)⟩, (ht bx (Ne.symm h3)).trans h.x, h.q.put (by omega), h.p, h.e, by simpa using h.e2⟩
  subst e
  rcases hb with hb | hb
  · rcases (h.d b hb).1 with hq | hq
    · have := hF b (Or.inl hq); omega
    · omega
  · have := hF b (Or.inr hb); omega
attribute [local go_sem] Oper.semAt_some
/-- What Rows leaves. -/
def RV (w : World) (g : Nat) (F S : Nat → Prop) (m : Nat) (s : St7) (xs : List (List Int)) (e : Ending) (w' : World) : Prop :=
  ∃ (v : Value) (F' : Nat → Prop) (P : List (List Int × Value)) (B : Nat), e = .returned v ∧ RM w' g F' S (m + 1) s ∧ Fr F w w' ∧ (∀ b, F b → F' b) ∧ (∀ b, F' b → (F b ∨ w.heap.size ≤ b) ∧ b < B) ∧ w.heap.size ≤ B ∧ B ≤ w'.heap.size ∧ OD w' B v P ∧ P.map Prod.fst = xs
set_option maxRecDepth 100000 in
set_option maxHeartbeats 2000000 in
theorem rows9_any (g : Nat) (F S : Nat → Prop) (m : Nat) (s : St7) (parts : Int) (w : World) (h : RM w g F S m s) (hm : m ≤ 100000000000000) (xs : List (List Int)) (hx : srtR xs) (hxp : xs.Perm (sel7 s parts [] [])) (hxl : ∀ x ∈ xs, x.length ≤ 100000000000) (hxn : xs.length ≤ 100000000000) (hxw : ∀ x ∈ xs, w64 x) :
    Calls Try.prog 12 #[.pointer (some ⟨g, 0, none⟩), .int .i64 parts] w (RV w g F S m s xs) := by
  have HR := hm7 h
  have HX := hm7 (And.intro hx hxp)
  have HXL := hm7 hxl
  have HXW := hm7 hxw
  have hat := find0_any g parts (w.alloc (.cells #[.slice none 0 0] 29))
  have HAT := hm7 hat
  clear h hx hxp hxl hxw hat
  obtain ⟨n, -⟩ : ∃ n : Nat, True := ⟨0, trivial⟩
  refine (callsIn_wide (n := n)).1 ?_
  refine callsIn_of_wp_marks Try.func12 rfl trivial ?_ rfl
  simp only [Try.ntmps12, List.size_toArray, List.length_cons, List.length_nil, Nat.reduceAdd, Nat.reduceSub, Array.replicate_succ, Array.replicate_zero, List.push_toArray, List.append_toArray, List.nil_append, List.cons_append]
  gi_wp2
  refine ⟨trivial, fun h => (by cases h), (callsIn_wide.2 HAT.out).mono ?_⟩
  rintro e V ⟨b1, b2, b3, b4, b5, rfl, hfb, hbs, hbV⟩
  clear HAT
  have hz1 : (w.alloc (.cells #[.slice none 0 0] 29)).heap.size = w.heap.size + 1 := by simp
  rw [hz1] at hbs
  have hV1 : w.heap.size + 1 ≤ V.heap.size := by have := hbV.size; omega
  have hbw : Below w.heap.size w V := (below1 w _).trans (hbV.mono (by omega))
  have hbox : Bk V w.heap.size #[.slice none 0 0] 29 := (Bk.new w _ _).below hbV
  have HFB := hm7 hfb
  have HBW := hm7 hbw
  have HBOX := hm7 hbox
  clear hfb hbw hbox hbV
  have HFS : Hid (∀ b, F b ∨ S b → b < w.heap.size) := fun b hb => hb.elim (fun h => (HR.out.q b h).2) (HR.out.q2 b)
  unfold fnd7
  gi_wp2
  refine wpIn_seqX (gf := 32) (lb := #[.pointer (some ⟨b1, 0, none⟩), .pointer (some ⟨b2, 0, none⟩), .pointer (some ⟨b3, 0, none⟩), .pointer (some ⟨b4, 0, none⟩), .pointer (some ⟨b5, 0, none⟩)]) rfl (enters_of Try.func32 (by kernel_rfl) rfl)
    (find_seq g F S (fun _ => False) (fun _ => False) m s parts [] [] (.slice none 0 0) (.slice none 0 0) b1 b2 b3 b4 b5 xs HX.out.1 HX.out.2 HXL.out hxn (by simp) (by simp) (by simp) hm) rfl
    (fun E pre X => ∃ F' v P, RJ w g F S m s (V.heap.size + 2) w.heap.size E pre X F' v P)
    (fun _ _ _ _ => False) ?ownI ?ownX ?start
    (fun E pre x u act X => (∃ F' v P B0, RJ w g F S m s (V.heap.size + 2) w.heap.size E pre X F' v P ∧ OwI X B0 u x ∧ E ≤ B0 ∧ (∀ p ∈ P, ∀ b, p.2.ownBlock = some b → b < B0) ∧ ∀ b, v.ownBlock = some b → b < B0) ∧ act = { tmps := #[.pointer (some ⟨g, 0, none⟩), .int .i64 parts, undef, undef, .slice none 0 0, .pointer (some ⟨w.heap.size, 0, none⟩), u, .pointer (some ⟨g, 0, none⟩), .int .i64 parts, .func (.func 32) #[] #[.pointer (some ⟨b1, 0, none⟩), .pointer (some ⟨b2, 0, none⟩), .pointer (some ⟨b3, 0, none⟩), .pointer (some ⟨b4, 0, none⟩), .pointer (some ⟨b5, 0, none⟩)], u, undef, undef, undef, undef, undef], defers := [] })
    ?ownA ?assign ?body ?done ?stop
  case ownI =>
    rintro E pre X o o' ⟨F', v, P, hri⟩ _ _
    exact ⟨F', v, P, hri.put _ _ (by omega) (by omega) (by omega) HFS.out⟩
  case ownX =>
    rintro E c pre X o o' h
    exact h.elim
  case ownA =>
    rintro E pre x u act _ X o o' ⟨⟨F', v, P, B0, hri, hl, hlE, hlP, hlv⟩, ha⟩ _ _
    have he := hri.e
    exact ⟨⟨F', v, P, B0, hri.put _ _ (by omega) (by omega) (by omega) HFS.out, row7 hl fun b hb => World.putObj_heap_other fun e => by have h1 := (World.ownsRow.lt hl b hb).1; omega, hlE, hlP, hlv⟩, ha⟩
  case start =>
    intro W1 hb1 hz
    have hw1 : Below w.heap.size w W1 := HBW.out.trans (hb1.mono (by omega))
    refine ⟨⟨HFB.out.below hb1, HR.out.below hw1, Li.nil _ _, by simp, Li.nil _ _, by simp⟩, ?_, ?_⟩
    · rintro W2 ⟨F', h1, h2, h3, h4⟩
      rw [orF] at h1
      have hs2 := h2.size
      refine ⟨⟨F', .slice none 0 0, [], h1, h3, fun b hb => ⟨(h4 b hb).1.imp id (by omega), (h4 b hb).2⟩, (Fr.of hw1).tr h2, ?_, OD.nil _ _, rfl, by omega, Nat.le_refl _⟩, by omega, ?_, ?_⟩
      · exact Bk.fr (HBOX.out.below hb1) h2 fun hF => by have := HFS.out _ (Or.inl hF); omega
      · exact h2.block _ (by omega) fun hF => by have := HFS.out _ (Or.inl hF); omega
      · exact h2.block _ (by omega) fun hF => by have := HFS.out _ (Or.inl hF); omega
    · rintro E pre W2 ⟨F', v, P, hri⟩
      refine ⟨fun b hb => ?_, by have := hri.e; omega⟩
      have hS : S b := hb.elim id fun h => h.elim
      have hlt := HFS.out b (Or.inr hS)
      rw [hri.f.block b hlt fun hF => (HR.out.q b hF).1 hS, hw1.block b hlt]
  case assign =>
    rintro l mm E pre x u W0 X K hpre ⟨F', v, P, hri⟩ hb hown hle hK
    have HPP : Hid (OwI X W0.heap.size u x ∧ E ≤ W0.heap.size ∧ (∀ p ∈ P, ∀ b, p.2.ownBlock = some b → b < W0.heap.size) ∧ ∀ b, v.ownBlock = some b → b < W0.heap.size) := ⟨hown, hri.e2, fun p hp b hb => (World.ownsRow.lt (hri.q.l p hp).1 b hb).2, fun b hb => (hri.q.o.lt b hb).2⟩
    have HRI := hm7 (hri.below hb)
    clear hri hown hb
    gi_wp2
    exact hK _ _ (Uq.refl _ _ _) ⟨⟨F', v, P, W0.heap.size, HRI.out, HPP.out⟩, rfl⟩
  case body =>
    rintro l mm E pre x u act X hpre ⟨⟨F', v, P, B0, hri, hl, hlE, hlP, hlv⟩, rfl⟩ hle
    obtain ⟨ua, uc, rfl, -⟩ := row7_form hl
    obtain ⟨va, vc, hv, -⟩ := row7_form hri.q.o
    have hpl : P.length ≤ 100000000000 := by
      have h1 := congrArg List.length hri.p
      have h2 := hpre.length_le
      simp only [List.length_map, List.length_append, List.length_cons, List.length_nil] at h1 h2
      omega
    obtain ⟨k, hk⟩ : ∃ k, P.length = k := ⟨_, rfl⟩
    rw [hk] at hv hpl
    subst hv
    have c0 := hri.x.cell (i := 0) rfl
    have HRI := hm7 hri
    have HL := hm7 hl
    have HLP := hm7 (And.intro hlP hlv)
    have HK := hm7 hk
    have HXX := hm7 (HXW.out x (hpre.subset (by simp)))
    clear hri hl hk hpre hlP hlv
    have HO : Hid (X.ownsRow E 23 1 (.slice va k vc) k (P.map Prod.snd)) := by have := HRI.out.q.o; rw [HK.out] at this; exact this
    obtain ⟨xn, hxn⟩ : ∃ xn, x.length = xn := ⟨_, rfl⟩
    rw [hxn] at HL ⊢
    clear hxn
    gi_wp2_with (gi_at_builtin; refine gappIn Try.underlying29 Try.infoInts7 rfl (by omega) rfl _ _ rfl E (.slice va k vc) k (P.map Prod.snd) rfl (row7_below HO.out (below1 _ _)) X.heap.size (.slice ua xn uc) rfl (Bk.new _ _ _) rfl (by omega) (by have := HRI.out.e2; simp; omega) ?_; intro g2 c2 w5 ho5 hg5 hv5 hl5; have hb5 : Bk w5 w.heap.size #[.slice va k vc] 29 := (hg5.block _ (by simp; omega) (fun e => by have h1 := (HO.out.lt _ e.symm).1; have h2 := HRI.out.e; omega)).trans ((below1 X _).block _ HRI.out.x.lt |>.trans HRI.out.x); have d0 := hb5.cell (i := 0) rfl; have d1 := hb5.froz 0; have HO5 := hm7 ho5; have HG5 := hm7 hg5; have HV5 := hm7 hv5; have HB5 := hm7 hb5; clear ho5 hg5 hv5 hb5)
    have he := HRI.out.e
    have hfr : Fr (fun b => (Value.slice va k vc).ownBlock = some b ∨ b = w.heap.size) X (w5.setCell ⟨w.heap.size, 0, none⟩ (.slice (some ⟨g2, 0, none⟩) (k + 1) c2)) := Fr.set ((Fr.of (below1 _ _)).tr (Fr.grown HG5.out fun b hb => Or.inl hb)) (Or.inl (Or.inr rfl))
    have hown : ∀ b, (Value.slice va k vc).ownBlock = some b → E ≤ b := fun b hb => (HO.out.lt b hb).1
    have hod := OD.more (x := x) HRI.out.q HK.out hlE HL.out HLP.out.1 HLP.out.2 HXX.out HO5.out HG5.out HV5.out
    refine ⟨⟨hfr.size, fun b h1 h2 h3 => hfr.block b h3 fun hc => hc.elim (fun e => by have := hown b e; omega) fun e => by omega⟩, F', .slice (some ⟨g2, 0, none⟩) (k + 1) c2, P ++ [(x, .slice ua xn uc)], HRI.out.r.fr hfr fun b hb hc => ?_, HRI.out.a, HRI.out.d, HRI.out.f.trans hfr fun b hb hc => ?_, HB5.out.set 0 _, ?_, by rw [List.map_append, HRI.out.p]; rfl, HRI.out.e, Nat.le_trans HRI.out.e2 hfr.size⟩
    · rcases hb with hb | hb
      · have h1 := HRI.out.d b hb
        rcases hc with hc | hc
        · have := hown b hc; omega
        · rcases h1.1 with h1 | h1
          · have := HFS.out b (Or.inl h1); omega
          · omega
      · have h1 := HFS.out b (Or.inr hb)
        rcases hc with hc | hc
        · have := hown b hc; omega
        · omega
    · rcases hc with hc | hc
      · have := hown b hc; omega
      · omega
    · exact hod.fr (Pd := fun b => b = w.heap.size) ((Fr.refl _ _).set (Or.inl rfl)) fun b hb _ e => by omega
  case done =>
    rintro E D X rfl ⟨F', v, P, hri⟩ hD
    have c0 := hri.x.cell (i := 0) rfl
    obtain ⟨va, vc, hv, -⟩ := row7_form hri.q.o
    obtain ⟨k, hk⟩ : ∃ k, P.length = k := ⟨_, rfl⟩
    rw [hk] at hv
    subst hv
    have HRI := hm7 hri
    clear hri
    gi_wp2
    refine ⟨by simp, .inl ⟨_, _, rfl, run_takeDeferred hD, ?_⟩⟩
    have hri := HRI.out.put V.heap.size (.deferred none) (by omega) (by omega) (by omega) HFS.out
    exact ⟨_, results_tmp rfl _ _ _, .slice va k vc, F', P, E, rfl, hri.r, hri.f, hri.a, fun b hb => ⟨(hri.d b hb).1.imp id (by omega), (hri.d b hb).2⟩, by have := hri.e; omega, hri.e2, hri.q, hri.p⟩
  case stop =>
    rintro E D c pre X rfl hpre h hD
    exact h.elim
set_option maxRecDepth 100000 in
set_option maxHeartbeats 2000000 in
theorem given9_any (g : Nat) (F S : Nat → Prop) (m : Nat) (s : St7) (w : World) (h : RM w g F S m s) (hm : m ≤ 100000000000000) (xs : List (List Int)) (hx : srtR xs) (hxp : xs.Perm (sel7 s 7 [] [])) (hxl : ∀ x ∈ xs, x.length ≤ 100000000000) (hxn : xs.length ≤ 100000000000) (hxw : ∀ x ∈ xs, w64 x) :
    Calls Try.prog 23 #[.pointer (some ⟨g, 0, none⟩)] w (RV w g F S m s xs) := by
  have HR := hm7 h
  have HX := hm7 (And.intro hx hxp)
  have HXL := hm7 hxl
  have HXW := hm7 hxw
  have hat := find0_any g 7 (w.alloc (.cells #[.slice none 0 0] 29))
  have HAT := hm7 hat
  clear h hx hxp hxl hxw hat
  obtain ⟨n, -⟩ : ∃ n : Nat, True := ⟨0, trivial⟩
  refine (callsIn_wide (n := n)).1 ?_
  refine callsIn_of_wp_marks Try.func23 rfl trivial ?_ rfl
  simp only [Try.ntmps23, List.size_toArray, List.length_cons, List.length_nil, Nat.reduceAdd, Nat.reduceSub, Array.replicate_succ, Array.replicate_zero, List.push_toArray, List.append_toArray, List.nil_append, List.cons_append]
  gi_wp2
  refine ⟨trivial, fun h => (by cases h), (callsIn_wide.2 HAT.out).mono ?_⟩
  rintro e V ⟨b1, b2, b3, b4, b5, rfl, hfb, hbs, hbV⟩
  clear HAT
  have hz1 : (w.alloc (.cells #[.slice none 0 0] 29)).heap.size = w.heap.size + 1 := by simp
  rw [hz1] at hbs
  have hV1 : w.heap.size + 1 ≤ V.heap.size := by have := hbV.size; omega
  have hbw : Below w.heap.size w V := (below1 w _).trans (hbV.mono (by omega))
  have hbox : Bk V w.heap.size #[.slice none 0 0] 29 := (Bk.new w _ _).below hbV
  have HFB := hm7 hfb
  have HBW := hm7 hbw
  have HBOX := hm7 hbox
  clear hfb hbw hbox hbV
  have HFS : Hid (∀ b, F b ∨ S b → b < w.heap.size) := fun b hb => hb.elim (fun h => (HR.out.q b h).2) (HR.out.q2 b)
  have qF : ∀ (w : World), (binOp .eql 32 (fnd7 b1 b2 b3 b4 b5) .nilFunc).run Try.prog w = .ok (.bool false) w := by intro w; rfl
  have qG : ∀ (w : World) (x y : Operand), (eqGuard .eql 32 x y (fnd7 b1 b2 b3 b4 b5) .nilFunc).run Try.prog w = .ok () w := by intro w x y; rfl
  gi_wp2
  clear qF qG
  unfold fnd7
  gi_wp2
  refine wpIn_seqX (gf := 32) (lb := #[.pointer (some ⟨b1, 0, none⟩), .pointer (some ⟨b2, 0, none⟩), .pointer (some ⟨b3, 0, none⟩), .pointer (some ⟨b4, 0, none⟩), .pointer (some ⟨b5, 0, none⟩)]) rfl (enters_of Try.func32 (by kernel_rfl) rfl)
    (find_seq g F S (fun _ => False) (fun _ => False) m s 7 [] [] (.slice none 0 0) (.slice none 0 0) b1 b2 b3 b4 b5 xs HX.out.1 HX.out.2 HXL.out hxn (by simp) (by simp) (by simp) hm) rfl
    (fun E pre X => ∃ F' v P, RJ w g F S m s (V.heap.size + 2) w.heap.size E pre X F' v P)
    (fun _ _ _ _ => False) ?ownI ?ownX ?start
    (fun E pre x u act X => (∃ F' v P B0, RJ w g F S m s (V.heap.size + 2) w.heap.size E pre X F' v P ∧ OwI X B0 u x ∧ E ≤ B0 ∧ (∀ p ∈ P, ∀ b, p.2.ownBlock = some b → b < B0) ∧ ∀ b, v.ownBlock = some b → b < B0) ∧ act = { tmps := #[.pointer (some ⟨g, 0, none⟩), undef, .slice none 0 0, .pointer (some ⟨w.heap.size, 0, none⟩), .func (.func 32) #[] #[.pointer (some ⟨b1, 0, none⟩), .pointer (some ⟨b2, 0, none⟩), .pointer (some ⟨b3, 0, none⟩), .pointer (some ⟨b4, 0, none⟩), .pointer (some ⟨b5, 0, none⟩)], u, .pointer (some ⟨g, 0, none⟩), .func (.func 32) #[] #[.pointer (some ⟨b1, 0, none⟩), .pointer (some ⟨b2, 0, none⟩), .pointer (some ⟨b3, 0, none⟩), .pointer (some ⟨b4, 0, none⟩), .pointer (some ⟨b5, 0, none⟩)], .func (.func 32) #[] #[.pointer (some ⟨b1, 0, none⟩), .pointer (some ⟨b2, 0, none⟩), .pointer (some ⟨b3, 0, none⟩), .pointer (some ⟨b4, 0, none⟩), .pointer (some ⟨b5, 0, none⟩)], .bool false, .func (.func 32) #[] #[.pointer (some ⟨b1, 0, none⟩), .pointer (some ⟨b2, 0, none⟩), .pointer (some ⟨b3, 0, none⟩), .pointer (some ⟨b4, 0, none⟩), .pointer (some ⟨b5, 0, none⟩)], u, undef, undef, undef, undef, undef], defers := [] })
    ?ownA ?assign ?body ?done ?stop
  case ownI =>
    rintro E pre X o o' ⟨F', v, P, hri⟩ _ _
    exact ⟨F', v, P, hri.put _ _ (by omega) (by omega) (by omega) HFS.out⟩
  case ownX =>
    rintro E c pre X o o' h
    exact h.elim
  case ownA =>
    rintro E pre x u act _ X o o' ⟨⟨F', v, P, B0, hri, hl, hlE, hlP, hlv⟩, ha⟩ _ _
    have he := hri.e
    exact ⟨⟨F', v, P, B0, hri.put _ _ (by omega) (by omega) (by omega) HFS.out, row7 hl fun b hb => World.putObj_heap_other fun e => by have h1 := (World.ownsRow.lt hl b hb).1; omega, hlE, hlP, hlv⟩, ha⟩
  case start =>
    intro W1 hb1 hz
    have hw1 : Below w.heap.size w W1 := HBW.out.trans (hb1.mono (by omega))
    refine ⟨⟨HFB.out.below hb1, HR.out.below hw1, Li.nil _ _, by simp, Li.nil _ _, by simp⟩, ?_, ?_⟩
    · rintro W2 ⟨F', h1, h2, h3, h4⟩
      rw [orF] at h1
      have hs2 := h2.size
      refine ⟨⟨F', .slice none 0 0, [], h1, h3, fun b hb => ⟨(h4 b hb).1.imp id (by omega), (h4 b hb).2⟩, (Fr.of hw1).tr h2, ?_, OD.nil _ _, rfl, by omega, Nat.le_refl _⟩, by omega, ?_, ?_⟩
      · exact Bk.fr (HBOX.out.below hb1) h2 fun hF => by have := HFS.out _ (Or.inl hF); omega
      · exact h2.block _ (by omega) fun hF => by have := HFS.out _ (Or.inl hF); omega
      · exact h2.block _ (by omega) fun hF => by have := HFS.out _ (Or.inl hF); omega
    · rintro E pre W2 ⟨F', v, P, hri⟩
      refine ⟨fun b hb => ?_, by have := hri.e; omega⟩
      have hS : S b := hb.elim id fun h => h.elim
      have hlt := HFS.out b (Or.inr hS)
      rw [hri.f.block b hlt fun hF => (HR.out.q b hF).1 hS, hw1.block b hlt]
  case assign =>
    rintro l mm E pre x u W0 X K hpre ⟨F', v, P, hri⟩ hb hown hle hK
    have HPP : Hid (OwI X W0.heap.size u x ∧ E ≤ W0.heap.size ∧ (∀ p ∈ P, ∀ b, p.2.ownBlock = some b → b < W0.heap.size) ∧ ∀ b, v.ownBlock = some b → b < W0.heap.size) := ⟨hown, hri.e2, fun p hp b hb => (World.ownsRow.lt (hri.q.l p hp).1 b hb).2, fun b hb => (hri.q.o.lt b hb).2⟩
    have HRI := hm7 (hri.below hb)
    clear hri hown hb
    gi_wp2
    exact hK _ _ (Uq.refl _ _ _) ⟨⟨F', v, P, W0.heap.size, HRI.out, HPP.out⟩, rfl⟩
  case body =>
    rintro l mm E pre x u act X hpre ⟨⟨F', v, P, B0, hri, hl, hlE, hlP, hlv⟩, rfl⟩ hle
    obtain ⟨ua, uc, rfl, -⟩ := row7_form hl
    obtain ⟨va, vc, hv, -⟩ := row7_form hri.q.o
    have hpl : P.length ≤ 100000000000 := by
      have h1 := congrArg List.length hri.p
      have h2 := hpre.length_le
      simp only [List.length_map, List.length_append, List.length_cons, List.length_nil] at h1 h2
      omega
    obtain ⟨k, hk⟩ : ∃ k, P.length = k := ⟨_, rfl⟩
    rw [hk] at hv hpl
    subst hv
    have c0 := hri.x.cell (i := 0) rfl
    have HRI := hm7 hri
    have HL := hm7 hl
    have HLP := hm7 (And.intro hlP hlv)
    have HK := hm7 hk
    have HXX := hm7 (HXW.out x (hpre.subset (by simp)))
    clear hri hl hk hpre hlP hlv
    have HO : Hid (X.ownsRow E 23 1 (.slice va k vc) k (P.map Prod.snd)) := by have := HRI.out.q.o; rw [HK.out] at this; exact this
    obtain ⟨xn, hxn⟩ : ∃ xn, x.length = xn := ⟨_, rfl⟩
    rw [hxn] at HL ⊢
    clear hxn
    gi_wp2_with (gi_at_builtin; refine gappIn Try.underlying29 Try.infoInts7 rfl (by omega) rfl _ _ rfl E (.slice va k vc) k (P.map Prod.snd) rfl (row7_below HO.out (below1 _ _)) X.heap.size (.slice ua xn uc) rfl (Bk.new _ _ _) rfl (by omega) (by have := HRI.out.e2; simp; omega) ?_; intro g2 c2 w5 ho5 hg5 hv5 hl5; have hb5 : Bk w5 w.heap.size #[.slice va k vc] 29 := (hg5.block _ (by simp; omega) (fun e => by have h1 := (HO.out.lt _ e.symm).1; have h2 := HRI.out.e; omega)).trans ((below1 X _).block _ HRI.out.x.lt |>.trans HRI.out.x); have d0 := hb5.cell (i := 0) rfl; have d1 := hb5.froz 0; have HO5 := hm7 ho5; have HG5 := hm7 hg5; have HV5 := hm7 hv5; have HB5 := hm7 hb5; clear ho5 hg5 hv5 hb5)
    have he := HRI.out.e
    have hfr : Fr (fun b => (Value.slice va k vc).ownBlock = some b ∨ b = w.heap.size) X (w5.setCell ⟨w.heap.size, 0, none⟩ (.slice (some ⟨g2, 0, none⟩) (k + 1) c2)) := Fr.set ((Fr.of (below1 _ _)).tr (Fr.grown HG5.out fun b hb => Or.inl hb)) (Or.inl (Or.inr rfl))
    have hown : ∀ b, (Value.slice va k vc).ownBlock = some b → E ≤ b := fun b hb => (HO.out.lt b hb).1
    have hod := OD.more (x := x) HRI.out.q HK.out hlE HL.out HLP.out.1 HLP.out.2 HXX.out HO5.out HG5.out HV5.out
    refine ⟨⟨hfr.size, fun b h1 h2 h3 => hfr.block b h3 fun hc => hc.elim (fun e => by have := hown b e; omega) fun e => by omega⟩, F', .slice (some ⟨g2, 0, none⟩) (k + 1) c2, P ++ [(x, .slice ua xn uc)], HRI.out.r.fr hfr fun b hb hc => ?_, HRI.out.a, HRI.out.d, HRI.out.f.trans hfr fun b hb hc => ?_, HB5.out.set 0 _, ?_, by rw [List.map_append, HRI.out.p]; rfl, HRI.out.e, Nat.le_trans HRI.out.e2 hfr.size⟩
    · rcases hb with hb | hb
      · have h1 := HRI.out.d b hb
        rcases hc with hc | hc
        · have := hown b hc; omega
        · rcases h1.1 with h1 | h1
          · have := HFS.out b (Or.inl h1); omega
          · omega
      · have h1 := HFS.out b (Or.inr hb)
        rcases hc with hc | hc
        · have := hown b hc; omega
        · omega
    · rcases hc with hc | hc
      · have := hown b hc; omega
      · omega
    · exact hod.fr (Pd := fun b => b = w.heap.size) ((Fr.refl _ _).set (Or.inl rfl)) fun b hb _ e => by omega
  case done =>
    rintro E D X rfl ⟨F', v, P, hri⟩ hD
    have c0 := hri.x.cell (i := 0) rfl
    obtain ⟨va, vc, hv, -⟩ := row7_form hri.q.o
    obtain ⟨k, hk⟩ : ∃ k, P.length = k := ⟨_, rfl⟩
    rw [hk] at hv
    subst hv
    have HRI := hm7 hri
    clear hri
    gi_wp2
    refine ⟨by simp, .inl ⟨_, _, rfl, run_takeDeferred hD, ?_⟩⟩
    have hri := HRI.out.put V.heap.size (.deferred none) (by omega) (by omega) (by omega) HFS.out
    exact ⟨_, results_tmp rfl _ _ _, .slice va k vc, F', P, E, rfl, hri.r, hri.f, hri.a, fun b hb => ⟨(hri.d b hb).1.imp id (by omega), (hri.d b hb).2⟩, by have := hri.e; omega, hri.e2, hri.q, hri.p⟩
  case stop =>
    rintro E D c pre X rfl hpre h hD
    exact h.elim
/-- Both, of a relation that lies in the blocks of T. -/
def RQ9 (w : World) (T : Nat → Prop) (g m : Nat) (s : St7) (Y : World) (parts : Int) (e : Ending) (Y' : World) : Prop := ∃ u Q B, e = .returned u ∧ OD Y' B u Q ∧ Y.heap.size ≤ B ∧ B ≤ Y'.heap.size ∧ Q.map Prod.fst = srt7 (sel7 s parts [] []) ∧ Fr T Y Y' ∧ ∃ T' : Nat → Prop, PT w T' g (m + 1) s Y' ∧ ∀ b, T' b → (T b ∨ Y.heap.size ≤ b) ∧ b < B
theorem pre9 {w : World} {g : Nat} {F S : Nat → Prop} {m : Nat} {s : St7} (h : RM w g F S m s) (parts : Int) : (∀ x ∈ srt7 (sel7 s parts [] []), x.length ≤ 100000000000) ∧ (srt7 (sel7 s parts [] [])).length ≤ 100000000000 ∧ ∀ x ∈ srt7 (sel7 s parts [] []), w64 x := by
  have hx : ∀ x ∈ srt7 (sel7 s parts [] []), x ∈ s.rows := fun x hx => sel_mem x ((srt7_perm _).mem_iff.1 hx)
  refine ⟨fun x hq => ?_, ?_, fun x hq => h.ok.w x (hx x hq)⟩
  · rw [h.ok.wid x (hx x hq)]
    have := h.ok.d (List.ne_nil_of_mem (hx x hq))
    omega
  · rw [(srt7_perm _).length_eq]
    have h1 := sel_len s.rows (pls7 s [] []) (sts7 s parts)
    have h2 := pls7_len h.ok [] []
    have h3 := sts7_len s parts
    have := Nat.mul_le_mul h3 h2
    unfold sel7
    omega
theorem RV.q9 {w Y : World} {T F S : Nat → Prop} {g m : Nat} {s : St7} {parts : Int} {e : Ending} {Y' : World} (h2 : ∀ b, F b ∨ S b → T b) (h3 : ∀ b, T b → w.heap.size ≤ b ∧ b < Y.heap.size) (h4 : Below w.heap.size w Y) (h : RV Y g F S m s (srt7 (sel7 s parts [] [])) e Y') : RQ9 w T g m s Y parts e Y' := by
  obtain ⟨v, F', P, B, rfl, k1, k2, k3, k4, k5, hB, k6, k7⟩ := h
  have hz := k2.size
  have hw := h4.size
  have hFl : ∀ b, F' b → b < Y'.heap.size := fun b hb => (k1.q b hb).2
  refine ⟨v, P, B, rfl, k6, k5, hB, k7, k2.mono fun b _ hb => h2 b (Or.inl hb), fun b => F' b ∨ S b, ⟨F', S, k1, fun b hb => hb, fun b hb => ?_, low7 h4 k2 fun b hb => (h3 b (h2 b (Or.inl hb))).1⟩, fun b hb => ?_⟩
  · rcases hb with hb | hb
    · refine ⟨?_, hFl b hb⟩
      rcases (k4 b hb).1 with h | h
      · exact (h3 b (h2 b (Or.inl h))).1
      · omega
    · have := h3 b (h2 b (Or.inr hb)); exact ⟨this.1, by omega⟩
  · rcases hb with hb | hb
    · exact ⟨(k4 b hb).1.imp (fun h => h2 b (Or.inl h)) id, (k4 b hb).2⟩
    · have := h3 b (h2 b (Or.inr hb)); exact ⟨Or.inl (h2 b (Or.inr hb)), by omega⟩
theorem PT.rows9 {w Y : World} {T : Nat → Prop} {g m : Nat} {s : St7} (h : PT w T g m s Y) (parts : Int) (hm : m ≤ 100000000000000) : Calls Try.prog 12 #[.pointer (some ⟨g, 0, none⟩), .int .i64 parts] Y (RQ9 w T g m s Y parts) := by
  obtain ⟨F, S, h1, h2, h3, h4⟩ := h
  obtain ⟨q1, q2, q3⟩ := pre9 h1 parts
  exact (rows9_any g F S m s parts Y h1 hm _ (srt7_srt _) (srt7_perm _) q1 q2 q3).mono fun e Y' h => RV.q9 h2 h3 h4 h
theorem PT.given9 {w Y : World} {T : Nat → Prop} {g m : Nat} {s : St7} (h : PT w T g m s Y) (hm : m ≤ 100000000000000) : Calls Try.prog 23 #[.pointer (some ⟨g, 0, none⟩)] Y (RQ9 w T g m s Y 7) := by
  obtain ⟨F, S, h1, h2, h3, h4⟩ := h
  obtain ⟨q1, q2, q3⟩ := pre9 h1 7
  exact (given9_any g F S m s Y h1 hm _ (srt7_srt _) (srt7_perm _) q1 q2 q3).mono fun e Y' h => RV.q9 h2 h3 h4 h
end Go.Proofs.Ytofopfjmcbgfjaa
