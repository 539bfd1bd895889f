import Derived.Test.YtmbmchbninlhpaaGreatDoorCJ4
import Derived.Test.YtmbmchbninlhpaaGreatDoorCR4
import Derived.Test.YtmbmchbninlhpaaGreatDoorCL1
import Derived.Test.YtmbmchbninlhpaaGreatDoorCD2
namespace Go.Proofs.YtmbmchbninlhpaaGreatDoor
open Go.RowKit

def Iv {α : Type} (f : List Int -> Rd α) (g : α -> List Int) (Q : α -> Prop) : Prop := ∀ l a r, byt l -> f l = .ok (a, r) -> l = g a ++ r /\ byt r /\ Q a
theorem iv_many {α : Type} {f : List Int -> Rd α} {g : α -> List Int} {Q : α -> Prop} (h : Iv f g Q) : ∀ n, Iv (rMany f n) (fun L => L.flatMap g) (fun L => L.length = n /\ ∀ x ∈ L, Q x)
 | 0 => fun l a r hb e => by
  simp only [rMany] at e
  cases e
  exact ⟨by simp, hb, rfl, fun x hx => by simp at hx⟩
 | n + 1 => fun l a r hb e => by
  simp only [rMany] at e
  rcases e1 : f l with c | ⟨x, r1⟩
  ·rw [e1] at e; cases e
  ·rw [e1] at e
   simp only [Rd.and] at e
   obtain ⟨h1, h2, h3⟩ := h l x r1 hb e1
   rcases e2 : rMany f n r1 with c | ⟨L, r2⟩
   ·rw [e2] at e; cases e
   ·rw [e2] at e
    simp only at e
    cases e
    obtain ⟨g1, g2, g3, g4⟩ := iv_many h n r1 L _ h2 e2
    refine ⟨?_, g2, by simp [g3], fun y hy => ?_⟩
    ·rw [h1, g1]; simp
    ·rcases List.mem_cons.1 hy with rfl | hy
     ·exact h3
     ·exact g4 y hy
theorem iv_arg : Iv rArg tB (fun t => t.cov = true /\ rng t) := fun l t r hb e => by
 unfold rArg at e
 rcases e1 : rOne [1, 2, 3] l with c | ⟨k, r1⟩
 ·rw [e1] at e; cases e
 ·rw [e1] at e
  simp only [Rd.and] at e
  obtain ⟨h1, h2, h3⟩ := rOne_inv hb e1
  simp only [List.mem_cons, List.mem_nil_iff, or_false] at h3
  obtain ⟨g1, g2, -, g4, -, -, g7⟩ := rTermOf_inv h2 e (by omega)
  exact ⟨by rw [h1, g1], g2, g4 (by omega), g7⟩
theorem iv_qual : Iv rQual tB (fun t => qualOk t = true /\ rng t) := fun l t r hb e => by
 unfold rQual at e
 rcases e1 : rOne [0, 2, 3] l with c | ⟨k, r1⟩
 ·rw [e1] at e; cases e
 ·rw [e1] at e
  simp only [Rd.and] at e
  obtain ⟨h1, h2, h3⟩ := rOne_inv hb e1
  simp only [List.mem_cons, List.mem_nil_iff, or_false] at h3
  obtain ⟨g1, g2, g3, -, g5, g6, g7⟩ := rTermOf_inv h2 e (by omega)
  refine ⟨by rw [h1, g1], g2, ?_, g7⟩
  unfold qualOk
  simp only [Bool.or_eq_true, decide_eq_true_eq]
  rcases h3 with h3 | h3 | h3
  ·exact .inl (g3 h3)
  ·obtain ⟨a1, a2, a3, a4⟩ := g5 h3
   refine .inr (.inl ?_)
   simp only [Tm.prin, decide_eq_true_eq]
   refine ⟨a1, a2, a4, fun h => ?_⟩
   rw [h] at a3
   exact absurd a3 (by decide)
  ·exact .inr (.inr (g6 h3))
theorem iv_name : Iv rName sB (fun s => nameOk s = true) := fun l s r hb e => by
 unfold rName at e
 rcases e1 : rText 1 32 l with c | ⟨s1, r1⟩
 ·rw [e1] at e; cases e
 ·rw [e1] at e
  simp only [Rd.and] at e
  obtain ⟨h1, h2, -, -⟩ := rText_inv hb e1
  split at e
  ·rename_i hn; cases e; exact ⟨h1, h2, hn⟩
  ·cases e
theorem iv_atom : Iv rAtom aB (fun a => a.err = 0 /\ ∀ t ∈ a.pl, rng t) := fun l a r hb e => by
 unfold rAtom at e
 rcases e1 : rQual l with c | ⟨b, r1⟩
 ·rw [e1] at e; cases e
 rw [e1] at e
 simp only [Rd.and] at e
 obtain ⟨a1, a2, a3, a4⟩ := iv_qual l b r1 hb e1
 rcases e2 : rName r1 with c | ⟨nm, r2⟩
 ·rw [e2] at e; cases e
 rw [e2] at e
 simp only at e
 obtain ⟨b1, b2, b3⟩ := iv_name r1 nm r2 a2 e2
 rcases e3 : rBnd 0 8 r2 with c | ⟨n, r3⟩
 ·rw [e3] at e; cases e
 rw [e3] at e
 simp only at e
 obtain ⟨c1, c2, c3, -, c5⟩ := rBnd_inv b2 e3
 rcases e4 : rMany rArg n.toNat r3 with c | ⟨ts, r4⟩
 ·rw [e4] at e; cases e
 rw [e4] at e
 simp only at e
 cases e
 obtain ⟨d1, d2, d3, d4⟩ := iv_many iv_arg n.toNat r3 ts _ c2 e4
 have hn : (ts.length : Int) = n := by omega
 refine ⟨?_, d2, ?_, fun t ht => ?_⟩
 ·unfold aB
  simp only [hn]
  rw [a1, b1, c1, d1]
  simp only [List.append_assoc, List.cons_append]
 ·unfold At.err
  simp only
  rw [if_neg (by simp [b3]), if_neg (by omega), if_neg (by simp [a3]), if_pos (List.all_eq_true.2 fun t ht => (d4 t ht).1)]
 ·simp only [At.pl, List.mem_cons] at ht
  rcases ht with rfl | ht
  ·exact a4
  ·exact (d4 t ht).2
theorem iv_test : Iv rTest eB (fun e => e.ok = true /\ rng e.l /\ rng e.r) := fun l a r hb e => by
 unfold rTest at e
 rcases e1 : rOne [1, 2, 3, 4] l with c | ⟨op, r1⟩
 ·rw [e1] at e; cases e
 rw [e1] at e
 simp only [Rd.and] at e
 obtain ⟨a1, a2, a3⟩ := rOne_inv hb e1
 simp only [List.mem_cons, List.mem_nil_iff, or_false] at a3
 rcases e2 : rArg r1 with c | ⟨x, r2⟩
 ·rw [e2] at e; cases e
 rw [e2] at e
 simp only at e
 obtain ⟨b1, b2, b3, b4⟩ := iv_arg r1 x r2 a2 e2
 rcases e3 : rArg r2 with c | ⟨y, r3⟩
 ·rw [e3] at e; cases e
 rw [e3] at e
 simp only at e
 cases e
 obtain ⟨c1, c2, c3, c4⟩ := iv_arg r2 y _ b2 e3
 refine ⟨?_, c2, ?_, b4, c4⟩
 ·unfold eB
  rw [a1, b1, c1]
  simp
 ·unfold Te.ok
  simp only [b3, c3, Bool.and_true, decide_eq_true_eq]
  omega
theorem iv_clause : Iv rClause cB (fun x => chkK x = 0 /\ Rng x) := fun l a r hb e => by
 unfold rClause at e
 rcases e1 : rAtom l with c | ⟨h, r1⟩
 ·rw [e1] at e; cases e
 rw [e1] at e
 simp only [Rd.and] at e
 obtain ⟨a1, a2, a3, a4⟩ := iv_atom l h r1 hb e1
 rcases e2 : rBnd 0 8 r1 with c | ⟨n, r2⟩
 ·rw [e2] at e; cases e
 rw [e2] at e
 simp only at e
 obtain ⟨b1, b2, b3, -, b5⟩ := rBnd_inv a2 e2
 rcases e3 : rMany rAtom n.toNat r2 with c | ⟨bs, r3⟩
 ·rw [e3] at e; cases e
 rw [e3] at e
 simp only at e
 obtain ⟨c1, c2, c3, c4⟩ := iv_many iv_atom n.toNat r2 bs _ b2 e3
 rcases e4 : rBnd 0 8 r3 with c | ⟨k, r4⟩
 ·rw [e4] at e; cases e
 rw [e4] at e
 simp only at e
 obtain ⟨d1, d2, d3, -, d5⟩ := rBnd_inv c2 e4
 rcases e5 : rMany rTest k.toNat r4 with c | ⟨ts, r5⟩
 ·rw [e5] at e; cases e
 rw [e5] at e
 simp only at e
 obtain ⟨f1, f2, f3, f4⟩ := iv_many iv_test k.toNat r4 ts _ d2 e5
 have hn : (bs.length : Int) = n := by omega
 have hk : (ts.length : Int) = k := by omega
 split at e
 ·rename_i hc
  cases e
  refine ⟨?_, f2, hc, ⟨fun x hx => ?_, fun x hx => (f4 x hx).2⟩⟩
  ·unfold cB
   simp only [hn, hk]
   rw [a1, b1, c1, d1, f1]
   simp only [List.append_assoc, List.cons_append]
  ·rcases List.mem_cons.1 hx with rfl | hx
   ·exact a4
   ·exact (c4 x hx).2
 ·cases e
theorem iv_whole {α : Type} {f : List Int -> Rd α} {g : α -> List Int} {Q : α -> Prop} (h : Iv f g Q) {l : List Int} {a : α} (hb : byt l) (e : rWhole f l = .ok a) : l = g a /\ Q a := by
 unfold rWhole at e
 rcases e1 : f l with c | ⟨x, r⟩
 ·rw [e1] at e; cases e
 ·rw [e1] at e
  simp only at e
  split at e
  ·rename_i hr
   cases e
   obtain ⟨h1, -, h3⟩ := h l _ r hb e1
   rw [hr, List.append_nil] at h1
   exact ⟨h1, h3⟩
  ·cases e
end Go.Proofs.YtmbmchbninlhpaaGreatDoor
namespace Go.Proofs.YtmbmchbninlhpaaGreatDoor
open Go.RowKit

theorem rVal_tB {t : Tm} (r : List Int) (h : t.con = true) (hr : rng t) : rVal (tB t ++ r) = .ok (t, r) := by
 obtain ⟨l, e, h2⟩ := rTermOf_tB r 0 (by unfold Tm.cov; rw [h]; rfl) hr (fun _ => by omega)
 have hk : t.k ∈ [(1 : Int), 2] := by
  simp only [Tm.con, decide_eq_true_eq] at h
  simp only [List.mem_cons, List.mem_nil_iff, or_false]
  omega
 unfold rVal
 rw [e, List.cons_append, rOne_one _ hk]
 exact h2
structure Sw (s : Sk) : Prop where
 w : wOk s = true
 t : ∀ t ∈ s.2.1, rng t
 n : s.1 <= 9223372036854775807
 u : ∀ n ∈ s.2.2, n <= 9223372036854775807
 lt : s.2.1.length < 4294967296
 lu : s.2.2.length < 4294967296
theorem wOk_iff {s : Sk} : wOk s = true ↔ (∀ t ∈ s.2.1, t.con = true) /\ (∀ n ∈ s.2.2, 0 <= n) /\ 0 <= s.1 := by
 unfold wOk
 simp only [Bool.and_eq_true, List.all_eq_true, decide_eq_true_eq]
def pK (x : Pk) : List Int := be 4 (x.1.length : Int) ++ x.1.flatMap cB ++ (be 4 (x.2.length : Int) ++ x.2.flatMap stB)
theorem iv_val : Iv rVal tB (fun t => t.con = true /\ rng t) := fun l t r hb e => by
 unfold rVal at e
 rcases e1 : rOne [1, 2] l with c | ⟨k, r1⟩
 ·rw [e1] at e; cases e
 ·rw [e1] at e
  simp only [Rd.and] at e
  obtain ⟨h1, h2, h3⟩ := rOne_inv hb e1
  simp only [List.mem_cons, List.mem_nil_iff, or_false] at h3
  obtain ⟨g1, g2, -, g4, -, -, g7⟩ := rTermOf_inv h2 e (by omega)
  have hcov := g4 (by omega)
  obtain ⟨l', e', -⟩ := rTermOf_tB r 0 hcov g7 (fun _ => by omega)
  have hk : k = t.k := by rw [e', List.cons_append] at g1; exact (List.cons.inj g1).1
  refine ⟨by rw [h1, g1], g2, ?_, g7⟩
  unfold Tm.cov at hcov
  rcases Bool.or_eq_true _ _ ▸ hcov with h | h
  ·exact h
  ·simp only [Tm.var, decide_eq_true_eq] at h
   omega
theorem iv_nat : Iv rNat nB (fun n => 0 <= n /\ n <= 9223372036854775807) := fun l n r hb e => by
 unfold rNat at e
 rcases e1 : rNum 8 l with c | ⟨k, r1⟩
 ·rw [e1] at e; cases e
 ·rw [e1] at e
  simp only [Rd.and] at e
  obtain ⟨h1, h2, h3, h4⟩ := rNum_inv hb e1
  split at e
  ·cases e
  ·rename_i hc
   cases e
   refine ⟨?_, h2, h3, by omega⟩
   unfold nB
   rw [Int.emod_eq_of_lt h3 (by omega)]
   exact h1
theorem iv_num4 {l r : List Int} {n : Int} (hb : byt l) (e : rNum 4 l = .ok (n, r)) : l = be 4 n ++ r /\ byt r /\ 0 <= n /\ n < 4294967296 := by
 obtain ⟨h1, h2, h3, h4⟩ := rNum_inv hb e
 exact ⟨h1, h2, h3, by have h5 : (256 : Int) ^ 4 = 4294967296 := (by decide); omega⟩
theorem iv_step : Iv rStep stB Sw := fun l a r hb e => by
 unfold rStep at e
 rcases e1 : rNat l with c | ⟨h, r1⟩
 ·rw [e1] at e; cases e
 rw [e1] at e
 simp only [Rd.and] at e
 obtain ⟨a1, a2, a3, a4⟩ := iv_nat l h r1 hb e1
 rcases e2 : rNum 4 r1 with c | ⟨n, r2⟩
 ·rw [e2] at e; cases e
 rw [e2] at e
 simp only at e
 obtain ⟨b1, b2, b3, b5⟩ := iv_num4 a2 e2
 rcases e3 : rMany rVal n.toNat r2 with c | ⟨bs, r3⟩
 ·rw [e3] at e; cases e
 rw [e3] at e
 simp only at e
 obtain ⟨c1, c2, c3, c4⟩ := iv_many iv_val n.toNat r2 bs _ b2 e3
 rcases e4 : rNum 4 r3 with c | ⟨k, r4⟩
 ·rw [e4] at e; cases e
 rw [e4] at e
 simp only at e
 obtain ⟨d1, d2, d3, d5⟩ := iv_num4 c2 e4
 rcases e5 : rMany rNat k.toNat r4 with c | ⟨ts, r5⟩
 ·rw [e5] at e; cases e
 rw [e5] at e
 simp only at e
 obtain ⟨f1, f2, f3, f4⟩ := iv_many iv_nat k.toNat r4 ts _ d2 e5
 have hn : (bs.length : Int) = n := by omega
 have hk : (ts.length : Int) = k := by omega
 cases e
 refine ⟨?_, f2, ⟨wOk_iff.2 ⟨fun t ht => (c4 t ht).1, fun t ht => (f4 t ht).1, a3⟩, fun t ht => (c4 t ht).2, a4, fun t ht => (f4 t ht).2, by show bs.length < _; omega, by show ts.length < _; omega⟩⟩
 unfold stB
 simp only [hn, hk]
 rw [a1, b1, c1, d1, f1]
 simp only [List.append_assoc]
theorem iv_proof : Iv rProof pK (fun x => (∀ c ∈ x.1, chkK c = 0 /\ Rng c) /\ (∀ s ∈ x.2, Sw s) /\ x.1.length < 4294967296 /\ x.2.length < 4294967296) := fun l a r hb e => by
 unfold rProof at e
 rcases e2 : rNum 4 l with c | ⟨n, r2⟩
 ·rw [e2] at e; cases e
 rw [e2] at e
 simp only [Rd.and] at e
 obtain ⟨b1, b2, b3, b5⟩ := iv_num4 hb e2
 rcases e3 : rMany rClause n.toNat r2 with c | ⟨bs, r3⟩
 ·rw [e3] at e; cases e
 rw [e3] at e
 simp only at e
 obtain ⟨c1, c2, c3, c4⟩ := iv_many iv_clause n.toNat r2 bs _ b2 e3
 rcases e4 : rNum 4 r3 with c | ⟨k, r4⟩
 ·rw [e4] at e; cases e
 rw [e4] at e
 simp only at e
 obtain ⟨d1, d2, d3, d5⟩ := iv_num4 c2 e4
 rcases e5 : rMany rStep k.toNat r4 with c | ⟨ts, r5⟩
 ·rw [e5] at e; cases e
 rw [e5] at e
 simp only at e
 obtain ⟨f1, f2, f3, f4⟩ := iv_many iv_step k.toNat r4 ts _ d2 e5
 have hn : (bs.length : Int) = n := by omega
 have hk : (ts.length : Int) = k := by omega
 cases e
 refine ⟨?_, f2, c4, f4, by show bs.length < _; omega, by show ts.length < _; omega⟩
 unfold pK
 simp only [hn, hk]
 rw [b1, c1, d1, f1]
 simp only [List.append_assoc]
theorem iv_wproof {l : List Int} {x : Pk} (hb : byt l) (e : rWhole rProof l = .ok x) : l = pK x /\ (∀ c ∈ x.1, chkK c = 0 /\ Rng c) /\ (∀ s ∈ x.2, Sw s) /\ x.1.length < 4294967296 /\ x.2.length < 4294967296 := iv_whole iv_proof hb e
end Go.Proofs.YtmbmchbninlhpaaGreatDoor
namespace Go.Proofs.YtmbmchbninlhpaaGreatDoor
open Go.RowKit

theorem ret_bC {a b : Bool} (h : a = b) : Ending.returned (.bool b) = Ending.returned (.bool a) := by rw [h]
theorem CsP.get {w : World} {a : Option Addr} {n cap j : Nat} {l : List Cm} {c : Cm} (h : CsP w (.slice a n cap) l) (hc : l[j]? = some c) : ∃ b o, a = some ⟨b, o, none⟩ /\ CRow w b o l := by
 rcases h.m with ⟨e, rfl⟩ | ⟨ad, cap', e, h2⟩
 ·simp at hc
 ·simp only [Value.slice.injEq] at e
  obtain ⟨rfl, -, -⟩ := e
  rcases h2 with rfl | ⟨b, o, rfl, h2⟩
  ·simp at hc
  ·exact ⟨b, o, rfl, h2⟩
set_option maxRecDepth 20000 in
set_option maxHeartbeats 4000000 in
theorem sameCs_any (l q : List Cm) (v u : Value) (w : World) (h : CsP w v l) (hu : CsP w u q) (hl : l.length <= 1000000000000000000) :
  Calls Tryz.prog 22 #[v, u] w fun e w' => e = .returned (.bool (decide (l.map Cm.key = q.map Cm.key))) /\ Below w.heap.size w w' := by
 have HP : Hid (CsP w v l) := h
 have HU : Hid (CsP w u q) := hu
 obtain ⟨va, vc, rfl⟩ := h.form
 obtain ⟨ua, uc, rfl⟩ := hu.form
 by_cases hlen : l.length = q.length
 ·have HCM : Hid (∀ x : Cm, x ∈ l -> ∀ y : Cm, y ∈ q -> ∀ Y : World, Below w.heap.size w Y -> Calls Tryz.prog 54 #[x.v, y.v] Y fun e w' => e = .returned (.bool (decide (x.key = y.key))) /\ Below Y.heap.size Y w') := fun x hx y hy Y hY => by
   rw [<- same_key]; exact sameC_any x y Y ((HP.out.ok x hx).later hY) ((HU.out.ok y hy).later hY)
  obtain ⟨R, hR⟩ : ∃ R, decide (l.map Cm.key = q.map Cm.key) = R := ⟨_, rfl⟩
  have HR : Hid (decide (l.map Cm.key = q.map Cm.key) = R) := hR
  have HLL : Hid (l.length = q.length) := hlen
  rw [hR]
  have n1 : ((l.length : Int) != (l.length : Int)) = false := by simp
  rw [<- hlen] at HU ⊢
  clear h hu hR hlen
  go_enter Tryz.func22, Tryz.ntmps22
  go_wp2
  go_loopg [5] l.length (fun g i wr => ∃ j : Nat, j + g = l.length /\ i = .int .i64 (j : Int) /\ (l.take j).map Cm.key = (q.take j).map Cm.key /\ Below w.heap.size w wr)
  case atStart => exact ⟨0, by omega, rfl, rfl, Below.refl _ _⟩
  case round =>
   obtain ⟨j, hg, rfl, hno, hb⟩ := hrel
   have HB : Hid (Below w.heap.size w wr) := hb
   have HEQ : Hid ((l.take j).map Cm.key = (q.take j).map Cm.key) := hno
   clear hb hno
   cases gk with
   | succ g =>
    have i0 : (0 : Int) <= (j : Int) := by omega
    have i1 : (j : Int) < (l.length : Int) := by omega
    obtain ⟨x, hx⟩ : ∃ c, l[j]? = some c := ⟨_, List.getElem?_eq_getElem (by omega)⟩
    obtain ⟨y, hy⟩ : ∃ c, q[j]? = some c := ⟨_, List.getElem?_eq_getElem (by have := HLL.out; omega)⟩
    have hxm := List.mem_of_getElem? hx
    have hym := List.mem_of_getElem? hy
    obtain ⟨sb, so, rfl, hrw⟩ := (HP.out.later HB.out).get hx
    have hz0 := hrw.1
    have hsv := hrw.seven hx
    obtain ⟨sd, sq, rfl, hrw2⟩ := (HU.out.later HB.out).get hy
    have hz2 := hrw2.1
    have hsv2 := hrw2.seven hy
    have hsh := (HP.out.ok x hxm).shape
    have hsh2 := (HU.out.ok y hym).shape
    have HCS0 := HCM.out x hxm y hym
    have HNX0 : Hid (x.key = y.key -> (l.take (j + 1)).map Cm.key = (q.take (j + 1)).map Cm.key) := fun he => by
     rw [List.take_add_one, hx, List.take_add_one, hy, List.map_append, List.map_append, HEQ.out]
     simp [he]
    have HNO0 : Hid (¬ x.key = y.key -> decide (l.map Cm.key = q.map Cm.key) = false) := fun hne => decide_eq_false fun he => hne (by
     have h1 : (l.map Cm.key)[j]? = (q.map Cm.key)[j]? := by rw [he]
     rw [List.getElem?_map, List.getElem?_map, hx, hy] at h1
     exact Option.some.inj h1)
    clear hx hy hxm hym hrw hrw2 HEQ
    obtain ⟨KX, hKX⟩ : ∃ K, x.key = K := ⟨_, rfl⟩
    obtain ⟨KC, hKC⟩ : ∃ K, y.key = K := ⟨_, rfl⟩
    rw [hKX, hKC] at HCS0 HNX0 HNO0
    clear hKX hKC
    obtain ⟨⟨⟨⟨xk, xm, xs⟩, xn, xl⟩, xx⟩, xb, xbv, xt, xtv⟩ := x
    simp only at hsv hsh
    obtain ⟨⟨x1, x2, x3, e1⟩, ⟨x4, x6, e2⟩, ⟨x7, x9, e3⟩, -, -⟩ := hsh
    obtain ⟨x5, h5⟩ : ∃ n, xb.length = n := ⟨_, rfl⟩
    obtain ⟨x8, h8⟩ : ∃ n, xt.length = n := ⟨_, rfl⟩
    rw [h5] at e2
    rw [h8] at e3
    subst e1 e2 e3
    clear h5 h8
    obtain ⟨⟨⟨⟨ck, cm, cs⟩, cn, cl⟩, cx⟩, cb, cbv, ct, ctv⟩ := y
    simp only at hsv2 hsh2
    obtain ⟨⟨c1, c2, c3, e1⟩, ⟨c4, c6, e2⟩, ⟨c7, c9, e3⟩, -, -⟩ := hsh2
    obtain ⟨c5, h5⟩ : ∃ n, cb.length = n := ⟨_, rfl⟩
    obtain ⟨c8, h8⟩ : ∃ n, ct.length = n := ⟨_, rfl⟩
    rw [h5] at e2
    rw [h8] at e3
    subst e1 e2 e3
    clear h5 h8
    obtain ⟨q0, q1, q2, q3, q4, q5, q6⟩ := hsv
    have HQ := conj7 q0 q1 q2 q3 q4 q5 q6
    have HQz : Hid (sb < wr.heap.size) := hz0
    clear q0 q1 q2 q3 q4 q5 q6 hz0
    obtain ⟨q0, q1, q2, q3, q4, q5, q6⟩ := hsv2
    have HR2 := conj7 q0 q1 q2 q3 q4 q5 q6
    have HRz : Hid (sd < wr.heap.size) := hz2
    clear q0 q1 q2 q3 q4 q5 q6 hz2
    by_cases hk : KX = KC
    ·have HCS : Hid (∀ Y : World, Below wr.heap.size wr Y -> Calls Tryz.prog 54 #[.agg #[.int .i64 xk, .int .i64 xm, .string xs, .string xn, .slice x1 x2 x3, .slice x4 x5 x6, .slice x7 x8 x9], .agg #[.int .i64 ck, .int .i64 cm, .string cs, .string cn, .slice c1 c2 c3, .slice c4 c5 c6, .slice c7 c8 c9]] Y fun e w' => e = .returned (.bool true) /\ Below Y.heap.size Y w') := fun Y hY => by have := HCS0 Y (below_step HB.out hY); rw [decide_eq_true hk] at this; exact this
     have HNX := HNX0.out hk
     have HNX : Hid ((l.take (j + 1)).map Cm.key = (q.take (j + 1)).map Cm.key) := HNX
     clear HCS0 HNX0 HNO0 hk
     go_upto_region 6 with fail
     refine wp_region_held_drew (S := fun w' => Below wr.heap.size wr w') (by kernel_rfl) (Below.refl _ _).drew (fun hH => ?_)
     revert hH
     generalize wr.drew = V
     intro hH
     refine wTk 0 (.slice (some ⟨sb, so, none⟩) l.length vc) rfl (by kernel_rfl) (fun _ _ _ h => h) (Or.inl ⟨by rfl, fun w' _ => by go_simp⟩) hH ?_
     simp only [wA8, wB8, wC8, wD8]
     refine wTk 1 (.int .i64 (j : Int)) rfl (by kernel_rfl) (fun _ _ _ h => h) (Or.inl ⟨by rfl, fun w' _ => by go_simp⟩) hH ?_
     simp only [wA8, wB8, wC8, wD8]
     refine wTk 2 (.pointer (some ⟨sb, so + j * 7, none⟩)) rfl (by kernel_rfl) (fun _ _ _ h => h) (Or.inl ⟨by rfl, fun w' _ => by go_simp⟩) hH ?_
     simp only [wA8, wB8, wC8, wD8]
     refine wTk 3 (.agg #[.int .i64 xk, .int .i64 xm, .string xs, .string xn, .slice x1 x2 x3, .slice x4 x5 x6, .slice x7 x8 x9]) rfl (by kernel_rfl) (fun _ _ _ h => h) (Or.inl ⟨by rfl, fun w' h => by obtain ⟨q0, q1, q2, q3, q4, q5, q6⟩ := Hid.out HQ; have z := Hid.out HQz; have y0 := cell_step h z q0; have y1 := cell_step h z q1; have y2 := cell_step h z q2; have y3 := cell_step h z q3; have y4 := cell_step h z q4; have y5 := cell_step h z q5; have y6 := cell_step h z q6; clear q0 q1 q2 q3 q4 q5 q6; go_simp⟩) hH ?_
     simp only [wA8, wB8, wC8, wD8]
     refine wTk 4 (.slice (some ⟨sd, sq, none⟩) l.length uc) rfl (by kernel_rfl) (fun _ _ _ h => h) (Or.inl ⟨by rfl, fun w' _ => by go_simp⟩) hH ?_
     simp only [wA8, wB8, wC8, wD8]
     refine wTk 5 (.int .i64 (j : Int)) rfl (by kernel_rfl) (fun _ _ _ h => h) (Or.inl ⟨by rfl, fun w' _ => by go_simp⟩) hH ?_
     simp only [wA8, wB8, wC8, wD8]
     refine wTk 6 (.pointer (some ⟨sd, sq + j * 7, none⟩)) rfl (by kernel_rfl) (fun _ _ _ h => h) (Or.inl ⟨by rfl, fun w' _ => by go_simp⟩) hH ?_
     simp only [wA8, wB8, wC8, wD8]
     refine wTk 7 (.agg #[.int .i64 ck, .int .i64 cm, .string cs, .string cn, .slice c1 c2 c3, .slice c4 c5 c6, .slice c7 c8 c9]) rfl (by kernel_rfl) (fun _ _ _ h => h) (Or.inl ⟨by rfl, fun w' h => by obtain ⟨q0, q1, q2, q3, q4, q5, q6⟩ := Hid.out HR2; have z := Hid.out HRz; have y0 := cell_step h z q0; have y1 := cell_step h z q1; have y2 := cell_step h z q2; have y3 := cell_step h z q3; have y4 := cell_step h z q4; have y5 := cell_step h z q5; have y6 := cell_step h z q6; clear q0 q1 q2 q3 q4 q5 q6; go_simp⟩) hH ?_
     simp only [wA8, wB8, wC8, wD8]
     refine wRd 8 (by kernel_rfl) rfl (fun K hK => ?_)
     go_simp
     refine (HCS.out _ hH).mono ?_
     rintro e V1 ⟨rfl, hb⟩
     refine hK.out _ _ (below_step hH hb) (fun hH => ?_)
     clear hK K hb
     refine wTk 9 (.bool false) rfl (by kernel_rfl) (fun _ _ _ h => h) (Or.inl ⟨by rfl, fun w' _ => by go_simp⟩) hH ?_
     simp only [wA8, wB8, wC8, wD8]
     refine wpAnyH_done (by kernel_rfl) ?_ _
     go_wp2
     go_roundg g
     case measure => omega
     case rel => exact ⟨j + 1, by omega, by go_num, HNX.out, below_step HB.out hH⟩
    ·have HCS : Hid (∀ Y : World, Below wr.heap.size wr Y -> Calls Tryz.prog 54 #[.agg #[.int .i64 xk, .int .i64 xm, .string xs, .string xn, .slice x1 x2 x3, .slice x4 x5 x6, .slice x7 x8 x9], .agg #[.int .i64 ck, .int .i64 cm, .string cs, .string cn, .slice c1 c2 c3, .slice c4 c5 c6, .slice c7 c8 c9]] Y fun e w' => e = .returned (.bool false) /\ Below Y.heap.size Y w') := fun Y hY => by have := HCS0 Y (below_step HB.out hY); rw [decide_eq_false hk] at this; exact this
     have HNO : Hid (R = false) := by show R = false; rw [<- HR.out]; exact HNO0.out hk
     clear HCS0 HNX0 HNO0 hk
     go_upto_region 6 with fail
     refine wp_region_held_drew (S := fun w' => Below wr.heap.size wr w') (by kernel_rfl) (Below.refl _ _).drew (fun hH => ?_)
     revert hH
     generalize wr.drew = V
     intro hH
     refine wTk 0 (.slice (some ⟨sb, so, none⟩) l.length vc) rfl (by kernel_rfl) (fun _ _ _ h => h) (Or.inl ⟨by rfl, fun w' _ => by go_simp⟩) hH ?_
     simp only [wA8, wB8, wC8, wD8]
     refine wTk 1 (.int .i64 (j : Int)) rfl (by kernel_rfl) (fun _ _ _ h => h) (Or.inl ⟨by rfl, fun w' _ => by go_simp⟩) hH ?_
     simp only [wA8, wB8, wC8, wD8]
     refine wTk 2 (.pointer (some ⟨sb, so + j * 7, none⟩)) rfl (by kernel_rfl) (fun _ _ _ h => h) (Or.inl ⟨by rfl, fun w' _ => by go_simp⟩) hH ?_
     simp only [wA8, wB8, wC8, wD8]
     refine wTk 3 (.agg #[.int .i64 xk, .int .i64 xm, .string xs, .string xn, .slice x1 x2 x3, .slice x4 x5 x6, .slice x7 x8 x9]) rfl (by kernel_rfl) (fun _ _ _ h => h) (Or.inl ⟨by rfl, fun w' h => by obtain ⟨q0, q1, q2, q3, q4, q5, q6⟩ := Hid.out HQ; have z := Hid.out HQz; have y0 := cell_step h z q0; have y1 := cell_step h z q1; have y2 := cell_step h z q2; have y3 := cell_step h z q3; have y4 := cell_step h z q4; have y5 := cell_step h z q5; have y6 := cell_step h z q6; clear q0 q1 q2 q3 q4 q5 q6; go_simp⟩) hH ?_
     simp only [wA8, wB8, wC8, wD8]
     refine wTk 4 (.slice (some ⟨sd, sq, none⟩) l.length uc) rfl (by kernel_rfl) (fun _ _ _ h => h) (Or.inl ⟨by rfl, fun w' _ => by go_simp⟩) hH ?_
     simp only [wA8, wB8, wC8, wD8]
     refine wTk 5 (.int .i64 (j : Int)) rfl (by kernel_rfl) (fun _ _ _ h => h) (Or.inl ⟨by rfl, fun w' _ => by go_simp⟩) hH ?_
     simp only [wA8, wB8, wC8, wD8]
     refine wTk 6 (.pointer (some ⟨sd, sq + j * 7, none⟩)) rfl (by kernel_rfl) (fun _ _ _ h => h) (Or.inl ⟨by rfl, fun w' _ => by go_simp⟩) hH ?_
     simp only [wA8, wB8, wC8, wD8]
     refine wTk 7 (.agg #[.int .i64 ck, .int .i64 cm, .string cs, .string cn, .slice c1 c2 c3, .slice c4 c5 c6, .slice c7 c8 c9]) rfl (by kernel_rfl) (fun _ _ _ h => h) (Or.inl ⟨by rfl, fun w' h => by obtain ⟨q0, q1, q2, q3, q4, q5, q6⟩ := Hid.out HR2; have z := Hid.out HRz; have y0 := cell_step h z q0; have y1 := cell_step h z q1; have y2 := cell_step h z q2; have y3 := cell_step h z q3; have y4 := cell_step h z q4; have y5 := cell_step h z q5; have y6 := cell_step h z q6; clear q0 q1 q2 q3 q4 q5 q6; go_simp⟩) hH ?_
     simp only [wA8, wB8, wC8, wD8]
     refine wRd 8 (by kernel_rfl) rfl (fun K hK => ?_)
     go_simp
     refine (HCS.out _ hH).mono ?_
     rintro e V1 ⟨rfl, hb⟩
     refine hK.out _ _ (below_step hH hb) (fun hH => ?_)
     clear hK K hb
     refine wTk 9 (.bool true) rfl (by kernel_rfl) (fun _ _ _ h => h) (Or.inl ⟨by rfl, fun w' _ => by go_simp⟩) hH ?_
     simp only [wA8, wB8, wC8, wD8]
     refine wpAnyH_done (by kernel_rfl) ?_ _
     go_wp2
     go_ret
     exact ⟨ret_bC HNO.out, below_step HB.out hH⟩
   | zero =>
    have hjl : j = l.length := by omega
    have hz : ¬ ((j : Int) < (l.length : Int)) := by omega
    have HFF : Hid (R = true) := by
     show R = true
     rw [<- HR.out]
     have := HEQ.out
     rw [hjl, List.take_length, HLL.out, List.take_length] at this
     exact decide_eq_true this
    clear HEQ
    go_wp2
    go_ret
    exact ⟨ret_bC HFF.out, HB.out⟩
 ·have e : decide (l.map Cm.key = q.map Cm.key) = false := decide_eq_false fun he => hlen (by simpa using congrArg List.length he)
  rw [e]
  obtain ⟨A, hA⟩ : ∃ A : Nat, l.length = A := ⟨_, rfl⟩
  obtain ⟨B, hB⟩ : ∃ B : Nat, q.length = B := ⟨_, rfl⟩
  rw [hA, hB] at hlen ⊢
  have n2 : ((A : Int) == (B : Int)) = false := beq_eq_false_iff_ne.2 (by omega)
  have n1 : ((A : Int) != (B : Int)) = true := by rw [bne, n2]; rfl
  have n3 : ¬ ((A : Int) = (B : Int)) := by omega
  clear e hA hB h hu hl HP HU
  go_enter Tryz.func22, Tryz.ntmps22
  go_wp2
  go_ret
  exact ⟨rfl, Below.refl _ _⟩
end Go.Proofs.YtmbmchbninlhpaaGreatDoor
