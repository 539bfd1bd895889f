import Derived.Test.YtnikmcmkbjjcdaaGreatDoorSY4
import Derived.Laws.AppendOwnNone
import GoSem.Op.String
import Derived.Laws.Strings
import Derived.Test.YtnikmcmkbjjcdaaGreatDoorSY0
import Derived.Laws.Cover1
import Derived.Laws.IdiomStrings
import Derived.Deep.QuietTactic
import Derived.BigQuiet
/-
  syntax: lists of terms; args.
-/
namespace Go.Proofs.YtnikmcmkbjjcdaaGreatDoor
open Go.RowKit
attribute [local go_sem ↓] Go.wp_at_zero Go.wp_at_succ

theorem info5 {P : Program} {e : TypeId} {z : Value} {s b : Nat} (h : (P.info? e).map (fun i => (i.zero, i.size, i.bytes)) = some (some z, s, b)) : ∃ i, P.info? e = some i ∧ i.zero = some z ∧ i.size = s ∧ i.bytes = b := by
  cases hi : P.info? e with
  | none => rw [hi] at h; simp at h
  | some i =>
    rw [hi] at h
    simp only [Option.map_some, Option.some.injEq, Prod.mk.injEq] at h
    exact ⟨i, rfl, h.1, h.2.1, h.2.2⟩
/-- append of one, whatever it is. -/
theorem gapp5 {T e : TypeId} {z : Value} {by_ size : Nat} (hT : Tryz.prog.underlying T = some (.slice e)) (hI : (Tryz.prog.info? e).map (fun i => (i.zero, i.size, i.bytes)) = some (some z, size, by_)) (hz : z.cells.size = size) (hsz : 0 < size) (hby : by_ ≤ 1000)
    {ops : Array Oper} {rest : List Oper} {o : Oper} {a : Act} {Q : Exit → Act → World → Prop} {w : World} (hgd : o.guard = none) (s x : Operand)
    (ho : o.op = .call { callee := .builtin .append, args := #[s, x], argTypes := #[T, T] }) (base : Nat) (v : Value) (n : Nat) (l : List Value) (hs : a.eval s = v) (hown : w.ownsRow base e size v n l)
    (b : Nat) (y : Array Value) (hx : a.eval x = .slice (some ⟨b, 0, none⟩) 1 1) (hblk : Bk w b y e) (hy : y.size = size) (hone : ∀ u ∈ y.toList, u.oneCell' = true) (hlen : n ≤ 100000000) (hbase : base ≤ w.heap.size)
    (h : ∀ g cap w', w'.ownsRow base e size (.slice (some ⟨g, 0, none⟩) (n + 1) cap) (n + 1) (l ++ y.toList) → w.grownBy w' v.ownBlock → (v.ownBlock = some g ∨ g = w.heap.size) → g < w'.heap.size → wpList Tryz.prog ops Q rest (a.put o.dst (.slice (some ⟨g, 0, none⟩) (n + 1) cap)) w') : wpList Tryz.prog ops Q (o :: rest) a w := by
  obtain ⟨i, hi, h0, h1, h2⟩ := info5 hI
  refine wpList_append_lies _ hgd s x T ho base e i z size by_ hT hi h0 h1 h2 hz hsz v n l hs hown ⟨b, 0, none⟩ 1 1 y.toList hx (by simp [hy]) ?_ hone (by omega) (by unfold maxLen; omega) (Nat.le_trans (Nat.mul_le_mul (show n + 1 ≤ 100000001 by omega) hby) (by decide)) hbase _ rfl h
  intro j u hj
  exact World.news_of_block (cs := y) (t := e) (fr := (0, 0)) hblk j u (by simpa using hj)
theorem Tryz.infoTerm5 : (Tryz.prog.info? 30).map (fun i => (i.zero, i.size, i.bytes)) = some (some (.agg #[.int .i64 0, .int .i64 0, .string ⟨#[]⟩]), 3, 32) := by kernel_rfl
def tc5 (l : List Tm) : List Value := l.flatMap fun t => [.int .i64 t.k, .int .i64 t.n, .string t.s]
/-- Terms that the call has laid. -/
def Ot5 (w : World) (base : Nat) (v : Value) (l : List Tm) : Prop := w.ownsRow base 30 3 v l.length (tc5 l)
theorem Ot5.fr {P : Nat → Prop} {w w' : World} {base : Nat} {v : Value} {l : List Tm} (h : Ot5 w base v l) (hf : Fr P w w') (hP : ∀ b, base ≤ b → ¬ P b) : Ot5 w' base v l :=
  row7_fr h hf fun g hg => hP g (World.ownsRow.lt h g hg).1
theorem Ot5.below {w w' : World} {base : Nat} {v : Value} {l : List Tm} (h : Ot5 w base v l) (hb : Below w.heap.size w w') : Ot5 w' base v l := row7_below h hb
theorem Ot5.mono5 {w : World} {b b' : Nat} {v : Value} {l : List Tm} (h : Ot5 w b v l) (hb : b' ≤ b) : Ot5 w b' v l := by
  refine ⟨h.1, ?_⟩
  rcases h.2 with hn | ⟨g, cap, cur, hv, hbb, hg, rest⟩
  · exact Or.inl hn
  · exact Or.inr ⟨g, cap, cur, hv, Nat.le_trans hb hbb, hg, rest⟩
theorem Ot5.one {w : World} {b base : Nat} {t : Tm} (h : Bk w b #[.int .i64 t.k, .int .i64 t.n, .string t.s] 30) (hb : base ≤ b) : Ot5 w base (.slice (some ⟨b, 0, none⟩) 1 1) [t] :=
  ⟨rfl, Or.inr ⟨b, 1, _, rfl, hb, h, Nat.le_refl _, by unfold maxLen; omega, rfl, rfl⟩⟩
theorem Ot5.snoc {w : World} {base n : Nat} {v : Value} {l : List Tm} {k m : Int} {x : ByteArray} (hn : l.length = n) (h : w.ownsRow base 30 3 v (n + 1) (tc5 l ++ [.int .i64 k, .int .i64 m, .string x])) : Ot5 w base v (l ++ [⟨k, m, x⟩]) := by
  subst hn
  unfold Ot5
  rw [List.length_append, List.length_singleton, show tc5 (l ++ [⟨k, m, x⟩]) = tc5 l ++ [.int .i64 k, .int .i64 m, .string x] by simp [tc5]]
  exact h
/-- A list, with signs between: from what is there on. -/
def ls5 {α : Type} (one : Ps → R5 α) (T : List Tk) (L : Nat) (b : Int) : Nat → List α → Ps → R5 (List α)
  | 0, acc, s => .ok (acc, s)
  | f + 1, acc, s => if kd5 T s 0 = b then (tk5 T L [b] s).and fun _ s => (one s).and fun a s => ls5 one T L b f (acc ++ [a]) s else .ok (acc, s)
def list5 {α : Type} (one : Ps → R5 α) (T : List Tk) (L : Nat) (b : Int) (s : Ps) : R5 (List α) := (one s).and fun a s => ls5 one T L b (T.length + 1) [a] s
theorem kd5_some {T : List Tk} {L : Nat} {s : Ps} {b : Int} (h : kd5 T s 0 = b) (hb : b ≠ 0) : ∃ t, T[s.nx]? = some t ∧ tk5 T L [b] s = .ok (t, ⟨s.nx + 1, s.op, s.vs, s.nm⟩) ∧ s.nx < T.length := by
  unfold kd5 at h
  rw [Nat.add_zero] at h
  cases ht : T[s.nx]? with
  | none => rw [ht] at h; exact absurd h.symm hb
  | some t =>
    rw [ht] at h
    have h1 : t.k = b := h
    refine ⟨t, rfl, ?_, (List.getElem?_eq_some_iff.1 ht).1⟩
    unfold tk5
    rw [ht]
    simp [h1]
theorem mean5_nx (t : Tk) (s : Ps) : (mean5 t s).2.nx = s.nx := by
  unfold mean5 va5
  (repeat' split) <;> rfl
theorem tm5_nx {T : List Tk} {L : Nat} {s s' : Ps} {t : Tm} (h : tm5 T L s = .ok (t, s')) : s'.nx = s.nx + 1 := by
  unfold tm5 at h
  cases hr : tk5 T L [1, 3, 2, 4] s with
  | error f => rw [hr] at h; cases h
  | ok p =>
    obtain ⟨u, s1⟩ := p
    rw [hr] at h
    obtain ⟨-, -, rfl⟩ := tk5_some hr
    have h1 : mean5 u ⟨s.nx + 1, s.op, s.vs, s.nm⟩ = (t, s') := Except.ok.inj h
    have := mean5_nx u ⟨s.nx + 1, s.op, s.vs, s.nm⟩
    rw [h1] at this
    exact this
set_option maxRecDepth 20000 in
set_option maxHeartbeats 2000000 in
theorem listT5_any (c : Pk) (s : Ps) (w : World) (h : PZ c w s) :
    Calls Tryz.prog 111 #[.pointer (some ⟨c.g, 0, none⟩), .func (.func 112) #[.pointer (some ⟨c.g, 0, none⟩)] #[], .int .i64 8] w (P5P c w (fun (l : List Tm) v w' => Ot5 w' w.heap.size v l) (list5 (tm5 c.T c.L) c.T c.L 8 s)) := by
  have hT := h.ok.l
  have hNw := h.Nw
  have HTM : Hid (∀ (X : World) (s : Ps), PZ c X s → Calls Tryz.prog 112 #[.pointer (some ⟨c.g, 0, none⟩)] X (P5P c X (fun (t : Tm) v _ => v = t.v) (tm5 c.T c.L s))) := fun X s hX => term5_any c s X hX
  have HKD : Hid (∀ (X : World) (s : Ps), PZ c X s → Calls Tryz.prog 96 #[.pointer (some ⟨c.g, 0, none⟩), .int .i64 0] X fun e w' => e = .returned (.int .i64 (kd5 c.T s 0)) ∧ Below X.heap.size X w') := fun X s hX => kind5_0 c s X hX
  have HWB : Hid (∀ b, w.heap.size ≤ b → ¬ W5 c b) := fun b hb => (h.nw hb).1
  obtain ⟨R, hR⟩ : ∃ R, list5 (tm5 c.T c.L) c.T c.L 8 s = R := ⟨_, rfl⟩
  rw [hR]
  unfold list5 at hR
  have h1 := HTM.out w s h
  cases hr : tm5 c.T c.L s with
  | error f =>
    have HE := hm7 (P5P.err h1 hr)
    rw [hr] at hR
    subst hR
    clear h1 hr h
    show Calls _ _ _ _ (P5P c w _ (.error f))
    go_enter Tryz.func111, Tryz.ntmps111
    go_wp2_with (go_at_call 112; refine HE.out.mono ?_; rintro e W1 ⟨rfl, hf⟩)
    exact ⟨rfl, hf, rfl⟩
  | ok p =>
    obtain ⟨⟨tk, tn, tx⟩, s1⟩ := p
    have HE := hm7 (P5P.ok h1 hr)
    rw [hr] at hR
    have HR := hm7 (show ls5 (tm5 c.T c.L) c.T c.L 8 (c.T.length + 1) [⟨tk, tn, tx⟩] s1 = R from hR)
    have HNX := hm7 (tm5_nx hr)
    have HNW := hm7 hNw
    clear h1 hr h hR hNw
    go_enter Tryz.func111, Tryz.ntmps111
    go_wp2_with (go_at_call 112; refine HE.out.mono ?_; rintro e W1 ⟨v1, rfl, rfl, hz, hf⟩; have HZ1 := hm7 (hz.below (below1 W1 (.cells #[.int .i64 tk, .int .i64 tn, .string tx] 30))); have HF1 := hm7 (hf.then (below1 W1 (.cells #[.int .i64 tk, .int .i64 tn, .string tx] 30))); have HO1 := hm7 (Ot5.one (t := ⟨tk, tn, tx⟩) (base := w.heap.size) (Bk.new W1 #[.int .i64 tk, .int .i64 tn, .string tx] 30) hf.size); have hs1 := HNX.out; clear hz hf)
    go_loopg [7] (c.T.length + 1) (fun f u wr => ∃ (acc : List Tm) (s : Ps), ls5 (tm5 c.T c.L) c.T c.L 8 f acc s = R ∧ c.T.length < s.nx + f ∧ acc.length ≤ s.nx ∧ Ot5 wr w.heap.size u acc ∧ PZ c wr s ∧ Fr (W5 c) w wr)
    case atStart => exact ⟨[⟨tk, tn, tx⟩], s1, HR.out, by omega, by rw [hs1]; simp, HO1.out, HZ1.out, HF1.out⟩
    case round =>
      obtain ⟨acc, s2, hls, hfl, hal, ho, hz, hf⟩ := hrel
      have HLS := hm7 hls
      have HAL := hm7 hal
      have HO := hm7 ho
      have HZ := hm7 hz
      have HF := hm7 hf
      have hle := hz.le
      have hsz := hf.size
      clear hls hal ho hz hf HR HZ1 HF1 HO1
      obtain ⟨ua, uc, huf, -⟩ := row7_form HO.out
      obtain ⟨an, han⟩ : ∃ n, acc.length = n := ⟨_, rfl⟩
      rw [han] at huf
      have HAN := hm7 han
      have HOW : Hid (wr.ownsRow w.heap.size 30 3 u7 an (tc5 acc)) := by have := HO.out; unfold Ot5 at this; rw [han] at this; exact this
      subst huf
      have han2 : an ≤ 2000000 := by have := HAL.out; omega
      clear han
      cases gk with
      | zero => omega
      | succ f =>
        have HK := hm7 (HKD.out wr s2 HZ.out)
        by_cases hk : kd5 c.T s2 0 = 8
        · obtain ⟨t0, ht0, htk, hlt⟩ := kd5_some (L := c.L) hk (by decide)
          have HTK : Hid (∀ X : World, Below wr.heap.size wr X → Calls Tryz.prog 69 #[.pointer (some ⟨c.g, 0, none⟩), .slice (some ⟨X.heap.size, 0, none⟩) 1 1] (X.alloc (.cells #[.int .i64 8] 3)) fun e w' => ∃ v, e = .returned v ∧ v = t0.v ∧ PZ c w' ⟨s2.nx + 1, s2.op, s2.vs, s2.nm⟩ ∧ Fr (W5 c) (X.alloc (.cells #[.int .i64 8] 3)) w') := fun X hX =>
            P5P.ok (take5_any [8] (.slice (some ⟨X.heap.size, 0, none⟩) 1 1) c s2 _ ((HZ.out.below hX).below (below1 _ _)) (Nm5.bk (ks := [8]) (Bk.new X #[.int .i64 8] 3) rfl (by decide)) (by decide)) htk
          have hls2 := HLS.out
          unfold ls5 at hls2
          rw [if_pos hk, htk] at hls2
          rw [hk] at HK
          have HL2 := hm7 (show ((tm5 c.T c.L ⟨s2.nx + 1, s2.op, s2.vs, s2.nm⟩).and fun a s => ls5 (tm5 c.T c.L) c.T c.L 8 f (acc ++ [a]) s) = R from hls2)
          clear hls2 htk ht0
          obtain ⟨tk0, tx0, tn0, ta0, te0⟩ := t0
          cases hr2 : tm5 c.T c.L ⟨s2.nx + 1, s2.op, s2.vs, s2.nm⟩ with
          | error f2 =>
            have HR2 : Hid (R = .error f2) := by have := HL2.out; rw [hr2] at this; exact this.symm
            have HE2 : Hid (∀ X : World, PZ c X ⟨s2.nx + 1, s2.op, s2.vs, s2.nm⟩ → Calls Tryz.prog 112 #[.pointer (some ⟨c.g, 0, none⟩)] X fun e w' => e = .panicked [pF f2] ∧ Fr (W5 c) X w') := fun X hX => P5P.err (HTM.out X _ hX) hr2
            clear hr2 HL2 HLS
            go_wp2_with (first
              | (go_at_call 96; refine HK.out.mono ?_; rintro e W2 ⟨rfl, hb⟩; have HB2 := hm7 hb; clear hb)
              | (go_at_call 69; refine (HTK.out _ HB2.out).mono ?_; rintro e W3 ⟨v3, rfl, rfl, hz, hf⟩; have HZ3 := hm7 hz; have HF3 := hm7 (((HF.out.then HB2.out).then (below1 _ _)).tr hf); clear hz hf)
              | (go_at_call 112; refine (HE2.out _ HZ3.out).mono ?_; rintro e W4 ⟨rfl, hf⟩; have HF4 := hm7 (HF3.out.tr hf); clear hf))
            refine ⟨rfl, ?_⟩
            rw [HR2.out]
            exact ⟨HF4.out, rfl⟩
          | ok p2 =>
            obtain ⟨⟨uk, un, ux⟩, s3⟩ := p2
            have HR3 : Hid (ls5 (tm5 c.T c.L) c.T c.L 8 f (acc ++ [⟨uk, un, ux⟩]) s3 = R) := by have := HL2.out; rw [hr2] at this; exact this
            have HE2 : Hid (∀ X : World, PZ c X ⟨s2.nx + 1, s2.op, s2.vs, s2.nm⟩ → Calls Tryz.prog 112 #[.pointer (some ⟨c.g, 0, none⟩)] X fun e w' => ∃ v, e = .returned v ∧ v = Tm.v ⟨uk, un, ux⟩ ∧ PZ c w' s3 ∧ Fr (W5 c) X w') := fun X hX => P5P.ok (HTM.out X _ hX) hr2
            have hnx3 : s3.nx = s2.nx + 1 + 1 := tm5_nx hr2
            have HN3 := hm7 hnx3
            clear hr2 HL2 HLS hnx3
            go_wp2_with (first
              | (go_at_call 96; refine HK.out.mono ?_; rintro e W2 ⟨rfl, hb⟩; have HB2 := hm7 hb; clear hb)
              | (go_at_call 69; refine (HTK.out _ HB2.out).mono ?_; rintro e W3 ⟨v3, rfl, rfl, hz, hf⟩; have HZ3 := hm7 hz; have HF3 := hm7 (((HF.out.then HB2.out).then (below1 _ _)).tr hf); have HO3 := hm7 (row7_fr (row7_below (row7_below HOW.out HB2.out) (below1 _ _)) hf fun b hb => HWB.out b (World.ownsRow.lt HOW.out b hb).1); clear hz hf)
              | (go_at_call 112; refine (HE2.out _ HZ3.out).mono ?_; rintro e W4 ⟨v4, rfl, rfl, hz, hf⟩; have HZ4 := hm7 (hz.below (below1 W4 (.cells #[.int .i64 uk, .int .i64 un, .string ux] 30))); have HF4 := hm7 ((HF3.out.tr hf).then (below1 W4 (.cells #[.int .i64 uk, .int .i64 un, .string ux] 30))); have HO4 := hm7 (row7_below (row7_fr HO3.out hf fun b hb => HWB.out b (World.ownsRow.lt HO3.out b hb).1) (below1 W4 (.cells #[.int .i64 uk, .int .i64 un, .string ux] 30))); have hz4 := (HF3.out.tr hf).size; clear hz hf)
              | (at_builtin; refine gapp5 Tryz.underlying31 Tryz.infoTerm5 rfl (by decide) (by decide) rfl _ _ rfl w.heap.size (.slice ua an uc) an (tc5 acc) rfl HO4.out W4.heap.size #[.int .i64 uk, .int .i64 un, .string ux] rfl (Bk.new _ _ _) rfl (by simp [Value.oneCell']) (by omega) (by simp; omega) ?_; intro g5 q5 w5 ho5 hg5 hv5 hl5; have HO5 := hm7 (Ot5.snoc HAN.out ho5); have HG5 : Hid (Fr (fun b => w.heap.size ≤ b) (W4.alloc (.cells #[.int .i64 uk, .int .i64 un, .string ux] 30)) w5) := Fr.grown hg5 fun b hb => (World.ownsRow.lt HO4.out b hb).1; clear ho5 hg5 hv5 hl5))
            have HZ5 := hm7 (HZ4.out.fr HG5.out fun b hb e => by have := HNW.out; omega)
            have HF5 := hm7 (HF4.out.trans HG5.out fun b hb e => by omega)
            go_roundg f
            case measure => omega
            case rel => exact ⟨acc ++ [⟨uk, un, ux⟩], s3, HR3.out, by have := HN3.out; omega, by have := HN3.out; have := HAL.out; rw [List.length_append, List.length_singleton]; omega, HO5.out, HZ5.out, HF5.out⟩
        · have hR2 := HLS.out
          unfold ls5 at hR2
          rw [if_neg hk] at hR2
          obtain ⟨kk, hkk⟩ : ∃ kk, kd5 c.T s2 0 = kk := ⟨_, rfl⟩
          rw [hkk] at HK hk
          have hk2 : (kk == 8) = false := by simp [hk]
          have HR2 := hm7 hR2
          clear hR2 hkk HLS
          go_wp2_with (go_at_call 96; refine HK.out.mono ?_; rintro e W2 ⟨rfl, hb⟩; have HB2 := hm7 hb; clear hb)
          go_ret
          rw [← HR2.out]
          exact ⟨HF.out.then HB2.out, _, rfl, HO.out.below HB2.out, HZ.out.below HB2.out⟩
end Go.Proofs.YtnikmcmkbjjcdaaGreatDoor
/-
  Texts in their order, as plain mathematics.
-/
namespace Go.Proofs.YtnikmcmkbjjcdaaGreatDoor
namespace M

def bl := Go.Op.bytesLess
end M
end Go.Proofs.YtnikmcmkbjjcdaaGreatDoor
/-
  cmp.Compare of numbers and of texts; Compare of terms; the same of the reference.
-/
namespace Go.Proofs.YtnikmcmkbjjcdaaGreatDoor
open Go.RowKit

theorem toList_inj {a b : ByteArray} (h : a.toList = b.toList) : a = b := by
  rw [ByteArray.toList_eq, ByteArray.toList_eq] at h
  exact ByteArray.ext (Array.toList_inj.1 h)
end Go.Proofs.YtnikmcmkbjjcdaaGreatDoor
