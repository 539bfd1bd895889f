/-
  ref 7: its relation in memory; New, place, Part.
-/
import Derived.Test.YtofopfjmcbgfjaaRD1
namespace Go.Proofs.Ytofopfjmcbgfjaa
open Go.RowKit
attribute [local go_sem ↓] Go.wp_at_zero Go.wp_at_succ

/-- The document's relation: its rows in rising order, and in which part each one is. -/
structure RRx (w : World) (T : Nat → Prop) (g : Nat) (s : St7) (av iv : Value) (P : List (List Int × Value)) (Y : World) : Prop where
  ok : s.Ok
  b : Bk Y g #[.int .i64 (s.wd : Int), av, iv] 121
  a : Y.ownsRow (w.heap.size) 23 1 av P.length (P.map Prod.snd)
  i : OwI Y w.heap.size iv ((srt7 s.rows).map (part7 s))
  p : P.map Prod.fst = srt7 s.rows
  r : ∀ p ∈ P, Li (fun b => T b ∧ b ≠ g ∧ iv.ownBlock ≠ some b) Y p.2 p.1
  ta : ∀ b, av.ownBlock = some b → T b
  ti : ∀ b, iv.ownBlock = some b → T b
  tg : T g
  t : ∀ b, T b → w.heap.size ≤ b ∧ b < Y.heap.size
  be : Below w.heap.size w Y
def RR (w : World) (T : Nat → Prop) (g : Nat) (s : St7) (Y : World) : Prop := ∃ av iv P, RRx w T g s av iv P Y
/-- What a call leaves of it. -/
def RPX (w : World) (T : Nat → Prop) (g : Nat) (s : St7) (Y Y' : World) : Prop := Fr T Y Y' ∧ ∃ T' : Nat → Prop, RR w T' g s Y' ∧ ∀ b, T' b → T b ∨ Y.heap.size ≤ b
theorem RRx.fr {w : World} {T P : Nat → Prop} {g : Nat} {s : St7} {av iv : Value} {Q : List (List Int × Value)} {Y Y' : World} (h : RRx w T g s av iv Q Y) (hf : Fr P Y Y') (hP : ∀ b, P b → b < Y.heap.size → w.heap.size ≤ b ∧ ¬ T b) : RRx w T g s av iv Q Y' := by
  have hb : ∀ b, T b → b < Y.heap.size → Y'.heap[b]? = Y.heap[b]? := fun b ht hl => hf.block b hl fun hc => (hP b hc hl).2 ht
  exact ⟨h.ok, h.b.same (hb g h.tg h.b.lt), row7 h.a fun b hb' => hb b (h.ta b hb') (h.a.lt b hb').2, row7 h.i fun b hb' => hb b (h.ti b hb') (World.ownsRow.lt h.i b hb').2, h.p, fun p hp => (h.r p hp).same hf.size fun b hb' hl => hb b hb'.1 hl, h.ta, h.ti, h.tg, fun b hb => ⟨(h.t b hb).1, Nat.lt_of_lt_of_le (h.t b hb).2 hf.size⟩, h.be.trans (Fr.low (Fr.mono hf (Q := fun b => w.heap.size ≤ b) fun b hl hb => (hP b hb hl).1) h.be.size)⟩
theorem RRx.below {w : World} {T : Nat → Prop} {g : Nat} {s : St7} {av iv : Value} {Q : List (List Int × Value)} {Y Y' : World} (h : RRx w T g s av iv Q Y) (hb : Below Y.heap.size Y Y') : RRx w T g s av iv Q Y' := h.fr (P := fun _ => False) (Fr.of hb) fun _ h => h.elim
theorem RR.below {w : World} {T : Nat → Prop} {g : Nat} {s : St7} {Y Y' : World} (h : RR w T g s Y) (hb : Below Y.heap.size Y Y') : RR w T g s Y' := by obtain ⟨av, iv, P, h⟩ := h; exact ⟨av, iv, P, h.below hb⟩
theorem RR.fr {w : World} {T P : Nat → Prop} {g : Nat} {s : St7} {Y Y' : World} (h : RR w T g s Y) (hf : Fr P Y Y') (hP : ∀ b, P b → b < Y.heap.size → w.heap.size ≤ b ∧ ¬ T b) : RR w T g s Y' := by obtain ⟨av, iv, Q, h⟩ := h; exact ⟨av, iv, Q, h.fr hf hP⟩
theorem three7 {w : World} {g : Nat} {a b c : Value} {t : TypeId} (h : Bk w g #[a, b, c] t) : w.cell? ⟨g, 0, none⟩ = some a ∧ w.cell? ⟨g, 1, none⟩ = some b ∧ w.cell? ⟨g, 2, none⟩ = some c := ⟨h.cell (i := 0) rfl, h.cell (i := 1) rfl, h.cell (i := 2) rfl⟩
theorem rnew7_any (w Y : World) (hb : Below w.heap.size w Y) (n : Nat) (hn : n ≤ 9223372036854775807) :
    Calls Try.prog 49 #[.int .i64 (n : Int)] Y fun e Y' => ∃ g, e = .returned (.tuple #[.pointer (some ⟨g, 0, none⟩), .int .i64 0]) ∧ Below Y.heap.size Y Y' ∧ ∃ T, RR w T g (New7 n) Y' ∧ ∀ b, T b → Y.heap.size ≤ b := by
  have i1 : ¬ (n : Int) < 0 := by omega
  have hs := hb.size
  have HB := hm7 hb
  clear hb
  go_enter Try.func49, Try.ntmps49
  go_wp2
  go_ret2
  have hb1 := below1 Y (.cells #[.int .i64 (n : Int), .slice none 0 0, .slice none 0 0] 121)
  refine ⟨Y.heap.size, rfl, hb1, fun b => b = Y.heap.size, ⟨.slice none 0 0, .slice none 0 0, [], ⟨⟨by simp [New7], by simp [New7], by simp [New7], by simp [New7], by simp [New7], by simp [New7], by simp [New7], by simp [New7]; omega⟩, Bk.new _ _ _, World.ownsRow_nil _ _ _ _, (by have e : srt7 (New7 n).rows = [] := List.perm_nil.1 (srt7_perm _); rw [e]; exact World.ownsRow_nil _ _ _ _), (by have e : srt7 (New7 n).rows = [] := List.perm_nil.1 (srt7_perm _); rw [e]; rfl), by simp, (fun b hb => by cases hb), (fun b hb => by cases hb), rfl, fun b hb => by rw [hb]; exact ⟨hs, by simp⟩, HB.out.trans (hb1.mono hs)⟩⟩, fun b hb => by omega⟩
theorem rnew7_no (Y : World) (n : Int) (hn : n < 0) : Calls Try.prog 49 #[.int .i64 n] Y fun e Y' => e = .returned (.tuple #[.pointer none, .int .i64 71]) ∧ Y' = Y := by
  go_enter Try.func49, Try.ntmps49
  go_wp2
  go_ret2
  exact ⟨rfl, rfl⟩
/-- Where a row stands or would stand. -/
structure Pl7 (L : List (List Int)) (r : List Int) (k : Nat) (there : Bool) : Prop where
  le : k ≤ L.length
  lo : ∀ i a, i < k → L[i]? = some a → cmpR a r < 0
  hi : ∀ a, L[k]? = some a → 0 ≤ cmpR a r ∧ (there = true ↔ cmpR a r = 0)
  en : k = L.length → there = false
def PlQ (Y : World) (L : List (List Int)) (r : List Int) (e : Ending) (Y' : World) : Prop := ∃ (k : Nat) (there : Bool), e = .returned (.tuple #[.int .i64 (k : Int), .bool there]) ∧ Pl7 L r k there ∧ ∃ n, Y' = Y.drewN n
set_option maxRecDepth 20000 in
set_option maxHeartbeats 1000000 in
theorem place7_any (w : World) (T G : Nat → Prop) (g : Nat) (s : St7) (v : Value) (r : List Int) (Y : World) (h : RR w T g s Y) (hv : Li G Y v r) (hr : r.length = s.wd) :
    Calls Try.prog 66 #[.pointer (some ⟨g, 0, none⟩), v] Y (PlQ Y (srt7 s.rows) r) := by
  obtain ⟨av, iv, P, h⟩ := h
  have H := hm7 h
  have HV := hm7 hv
  obtain ⟨c0, c1, c2⟩ := three7 h.b
  obtain ⟨aa, ac, ha, -⟩ := row7_form h.a
  obtain ⟨ia, ic, hi, -⟩ := row7_form h.i
  obtain ⟨n, hn⟩ : ∃ n, P.length = n := ⟨_, rfl⟩
  rw [hn] at ha
  generalize ((srt7 s.rows).map (part7 s)).length = inn at hi
  subst ha hi
  obtain ⟨va, vn, vc, rfl⟩ : ∃ a n c, v = .slice a n c := by obtain ⟨a, c, e, -⟩ := hv; exact ⟨_, _, _, e⟩
  have hnb : n ≤ 10000000000 := by
    have h1 := congrArg List.length h.p
    rw [List.length_map, (srt7_perm _).length_eq] at h1
    have := h.ok.c
    omega
  have HLL : Hid ((srt7 s.rows).length = n) := by show _ = _; rw [← h.p, List.length_map, hn]
  have HA : Hid (Y.ownsRow w.heap.size 23 1 (.slice aa n ac) n (P.map Prod.snd)) := by have := h.a; rw [hn] at this; exact this
  have HN := hm7 hn
  clear h hv hn c2
  go_enter Try.func66, Try.ntmps66
  go_wp2
  go_loopg [6, 7] n (fun gg i _ wr => ∃ j m : Nat, j + gg = n ∧ i = .int .i64 j ∧ (∀ i a, i < j → (srt7 s.rows)[i]? = some a → cmpR a r < 0) ∧ wr = Y.drewN m)
  case atStart => exact ⟨0, 0, by omega, rfl, fun i a hi => by omega, rfl⟩
  case round =>
    obtain ⟨j, m, hj, rfl, hp, rfl⟩ := hrel
    have HP := hm7 hp
    clear hp
    cases gk with
    | succ gg =>
      have hlt : (j : Int) < (n : Int) := by omega
      have j0 : (0 : Int) ≤ (j : Int) := by omega
      obtain ⟨p, hpj⟩ : ∃ x, P[j]? = some x := ⟨_, List.getElem?_eq_getElem (by have := HN.out; omega)⟩
      have hpl : (srt7 s.rows)[j]? = some p.1 := by rw [← H.out.p, List.getElem?_map, hpj]; rfl
      have HPL := hm7 hpl
      obtain ⟨b1, rfl, -, -, p0, -⟩ := row7_at HA.out (i := j) (u := p.2) (by rw [List.getElem?_map, hpj]; rfl)
      have hli := H.out.r p (List.mem_of_getElem? hpj)
      have hw : p.1.length = s.wd := H.out.ok.wid p.1 ((srt7_perm _).mem_iff.1 (List.mem_of_getElem? hpl))
      have HC := hm7 (order7_any _ G p.1 r p.2 (.slice va vn vc) (Y.drewN m) (hli.drewN m) (HV.out.drewN m) (by rw [hw, hr]))
      obtain ⟨pa, pc, hpv, -⟩ := hli
      generalize p.1.length = pn at hpv hw
      rw [hpv] at p0 HC
      clear hpj hpl hpv hw
      obtain ⟨c, hc⟩ : ∃ c, cmpR p.1 r = c := ⟨_, rfl⟩
      rw [hc] at HC
      have HCC := hm7 hc
      clear hc
      by_cases hcz : 0 ≤ c
      · go_wp2_with (go_at_call 93; refine HC.out.mono ?_; rintro e w2 ⟨rfl, n2, rfl⟩)
        go_ret2
        refine ⟨j, c == 0, rfl, ⟨by have := HLL.out; omega, HP.out, fun a ha => ?_, fun e => by have := HLL.out; omega⟩, _, rfl⟩
        rw [HPL.out] at ha
        cases ha
        rw [HCC.out]
        exact ⟨hcz, by simp⟩
      · have hcn : ¬ (0 : Int) ≤ c := hcz
        go_wp2_with (go_at_call 93; refine HC.out.mono ?_; rintro e w2 ⟨rfl, n2, rfl⟩)
        go_roundg gg
        case measure => omega
        case rel =>
          refine ⟨j + 1, m + n2, by omega, by go_num, fun i a hi ha => ?_, rfl⟩
          by_cases e : i = j
          · subst e
            rw [HPL.out] at ha
            cases ha
            rw [HCC.out]; omega
          · exact HP.out i a (by omega) ha
    | zero =>
      have hlt : ¬ (j : Int) < (n : Int) := by omega
      obtain rfl : j = n := by omega
      go_wp2
      go_ret2
      refine ⟨j, false, rfl, ⟨by have := HLL.out; omega, HP.out, fun a ha => ?_, fun _ => rfl⟩, _, rfl⟩
      have := (List.getElem?_eq_some_iff.1 ha).1
      have := HLL.out
      omega
end Go.Proofs.Ytofopfjmcbgfjaa
