import Derived.Test.YtelcoihmiglceaaGreatCL21
import Derived.Test.YtelcoihmiglceaaGreatLD2
import Derived.Test.YtelcoihmiglceaaGreatCL27
import Derived.Deep.RegionHeld3
import Derived.BigQuiet
import Derived.Laws.OwnMore
import Derived.Deep.CutRange
import Derived.Deep.DrawnRows
import Derived.WalkMore
import Derived.WalkSmall
import Derived.Deep.AppendLies
import Derived.Laws.IdiomStrings
import Derived.Lib.AppendStr
import Derived.Laws.BytesArg
import Derived.WalkLawsBesides
import Derived.Laws.BitsAllLaws
/-
  ClauseSetIs: the walk. (Written by SD7.py.)
-/
namespace Go.Proofs.YtelcoihmiglceaaGreat
open Go.RowKit
attribute [local go_sem ↓] Go.wp_at_zero Go.wp_at_succ

theorem OwnC.csp {B : Nat} {X : World} {v : Value} {l : List Cm} (h : OwnC X B v l) (hok : ∀ c ∈ l, c.ok X) : CsP X v l := by
  refine ⟨?_, hok⟩
  rcases h.2 with ⟨rfl, hn⟩ | ⟨g, cap, cur, hv, -⟩
  · exact Or.inl ⟨rfl, List.length_eq_zero_iff.1 hn⟩
  · refine Or.inr ⟨⟨g, 0, none⟩, cap, hv, ?_⟩
    cases l with
    | nil => exact Or.inl rfl
    | cons c l =>
      have ho := h
      rw [hv] at ho
      obtain ⟨b, o, e, hr⟩ := ho.adr (j := 0) (c := c) rfl
      exact Or.inr ⟨b, o, Option.some.inj e, hr⟩
theorem dkN_len (l : List Cm) : ∀ n, (dkN l n).length ≤ n
  | 0 => Nat.le_refl _
  | n + 1 => by
    have := dkN_len l n
    unfold dkN
    rw [List.length_append]
    split
    · split <;> simp <;> omega
    · simp; omega
theorem set2_any (l : List Cm) (v : Value) (w : World) (h : CsP w v l) (hl : l.length ≤ 1000000000) (hz : ∀ c ∈ l, c.sml) :
    Calls Tryz.prog 36 #[v] w fun e w' => ∃ v' o, e = .returned v' ∧ CsP w' v' o ∧ o.length ≤ l.length ∧ SetK (o.map Cm.key) l ∧ Below w.heap.size w w' :=
  (set_any l v w h hl hz).mono fun e w' ⟨v', he, o, ho, l', hk, hp, hs, hb⟩ => ⟨v', o, he, ho.csp, by
    have h1 := dkN_len l' l'.length
    rw [← hk, List.length_map, hp.length_eq] at h1
    exact h1, by rw [hk]; exact SetK.of hp hs, hb⟩
end Go.Proofs.YtelcoihmiglceaaGreat
/-
  Bytes that a call lays, in the codec's seat; texts' bytes.
-/
namespace Go.Proofs.YtelcoihmiglceaaGreat
open Go.RowKit

def ibs (l : List Int) : List Value := l.map (Value.int .u8)
/-- A list of bytes of the call's own. -/
def OwnB (w : World) (base : Nat) (v : Value) (l : List Int) : Prop := w.ownsRow base 5 1 v l.length (ibs l)
theorem OwnB.later {w w' : World} {base : Nat} {v : Value} {l : List Int} (h : OwnB w base v l) (hb : Below w.heap.size w w') : OwnB w' base v l := by
  refine ⟨h.1, ?_⟩
  rcases h.2 with hn | ⟨g, cap, cur, hv, hbb, hg, rest⟩
  · exact Or.inl hn
  · exact Or.inr ⟨g, cap, cur, hv, hbb, (hb.block g (Array.getElem?_eq_some_iff.1 hg).1).trans hg, rest⟩
theorem ownB_nil (w : World) (base : Nat) : OwnB w base (.slice none 0 0) [] := World.ownsRow_nil _ _ _ _
theorem OwnB.mono {w : World} {base B : Nat} {v : Value} {l : List Int} (h : OwnB w base v l) (hb : B ≤ base) : OwnB w B v l := by
  refine ⟨h.1, ?_⟩
  rcases h.2 with hn | ⟨g, cap, cur, hv, hbb, rest⟩
  · exact Or.inl hn
  · exact Or.inr ⟨g, cap, cur, hv, Nat.le_trans hb hbb, rest⟩
theorem OwnB.lit (w : World) (l : List Int) (hl : l.length ≤ 100000000) : OwnB (w.alloc (.cells (ibs l).toArray 5)) w.heap.size (.slice (some ⟨w.heap.size, 0, none⟩) l.length l.length) l :=
  World.ownsRow_lit w (ibs l).toArray l.length (Nat.le_refl _) (by unfold maxLen; omega) (by simp [ibs])
theorem Tryz.infoU8 : (Tryz.prog.info? 5).map (fun i => (i.size, i.bytes, i.zero.map (·.cells.size))) = some (1, 1, some 1) := by kernel_rfl
theorem infoU8_parts : ∃ (i : TypeInfo) (z : Value), Tryz.prog.info? 5 = some i ∧ i.zero = some z ∧ i.size = 1 ∧ i.bytes = 1 ∧ z.cells.size = 1 := by
  have h := Tryz.infoU8
  cases hi : Tryz.prog.info? 5 with
  | none => rw [hi] at h; simp at h
  | some i =>
    rw [hi] at h
    simp only [Option.map_some, Option.some.injEq, Prod.mk.injEq] at h
    obtain ⟨h1, h2, h3⟩ := h
    cases hz : i.zero with
    | none => rw [hz] at h3; simp at h3
    | some z => rw [hz] at h3; simp only [Option.map_some, Option.some.injEq] at h3; exact ⟨i, z, rfl, hz, h1, h2, h3⟩
theorem grown_below {w w' : World} {base : Nat} {v : Value} (hg : w.grownBy w' v.ownBlock) (h : ∀ k, v.ownBlock = some k → base ≤ k) (hb : base ≤ w.heap.size) : Below base w w' :=
  ⟨hg.os, hg.tape, hg.output, hg.size, fun k hk => hg.block k (by omega) (fun e => by have := h k e.symm; omega)⟩
/-- Bytes that lie in memory. -/
def Bn (w : World) (v : Value) (l : List Int) : Prop := ∃ a cap, v = .slice a l.length cap ∧ l.length ≤ cap ∧ l.length < 1000000000000000000 ∧ (l = [] ∨ ∃ b o, a = some ⟨b, o, none⟩ ∧ b < w.heap.size ∧ ∀ (i : Nat) (x : Int), l[i]? = some x → w.cell? ⟨b, o + i, none⟩ = some (.int .u8 x))
theorem Bn.later {w w' : World} {v : Value} {l : List Int} (h : Bn w v l) (hb : Below w.heap.size w w') : Bn w' v l := by
  obtain ⟨a, cap, rfl, h0, h1, h⟩ := h
  refine ⟨a, cap, rfl, h0, h1, h.imp id ?_⟩
  rintro ⟨b, o, rfl, hlt, hc⟩
  exact ⟨b, o, rfl, Nat.lt_of_lt_of_le hlt hb.size, fun i x hx => cell_step hb hlt (hc i x hx)⟩
theorem OwnB.bn {w : World} {base : Nat} {v : Value} {l : List Int} (h : OwnB w base v l) (hl : l.length < 1000000000000000000) : Bn w v l := by
  rcases h.2 with ⟨hv, hn⟩ | ⟨g, cap, cur, hv, -, hg, hn, -, -, -⟩
  · have : l = [] := List.eq_nil_of_length_eq_zero hn
    subst this
    exact ⟨none, 0, hv, Nat.le_refl _, hl, Or.inl rfl⟩
  · refine ⟨some ⟨g, 0, none⟩, cap, hv, hn, hl, Or.inr ⟨g, 0, rfl, (Array.getElem?_eq_some_iff.1 hg).1, fun i x hx => ?_⟩⟩
    have := World.ownsRow.cells h (g := g) (by rw [hv]; rfl) i (.int .u8 x) (by simp [ibs, hx])
    rw [Addr.add_mid] at this
    exact this
/-- Bytes as a text. -/
def i2b (l : List Int) : List UInt8 := l.map fun x => UInt8.ofNat x.toNat
def byt (l : List Int) : Prop := ∀ x ∈ l, 0 ≤ x ∧ x ≤ 255
/-- A text's bytes. -/
def bl (s : ByteArray) : List Int := s.data.toList.map fun b => (b.toNat : Int)
/-- The text of bytes. -/
def ofL (l : List Int) : ByteArray := ⟨(i2b l).toArray⟩
theorem bl_len (s : ByteArray) : (bl s).length = s.size := by simp [bl]
theorem bl_byt (s : ByteArray) : byt (bl s) := fun x hx => by
  simp only [bl, List.mem_map] at hx
  obtain ⟨b, -, rfl⟩ := hx
  have := b.toNat_lt; omega
theorem i2b_map (l : List UInt8) : i2b (l.map fun b => (b.toNat : Int)) = l := by
  induction l with
  | nil => rfl
  | cons b l ih => simp only [i2b, List.map_cons] at ih ⊢; rw [ih]; simp
theorem ofL_bl (s : ByteArray) : ofL (bl s) = s := by
  unfold ofL bl; rw [i2b_map]
theorem bl_ofL {l : List Int} (h : byt l) : bl (ofL l) = l := by
  unfold bl ofL i2b
  induction l with
  | nil => rfl
  | cons x l ih =>
    simp only [List.map_cons] at ih ⊢
    have hx := h x (by simp)
    have e := ih (fun y hy => h y (by simp [hy]))
    rw [e]
    congr 1
    simp; omega
theorem byt.app {l m : List Int} (h : byt l) (k : byt m) : byt (l ++ m) := fun x hx => (List.mem_append.1 hx).elim (h x) (k x)
/-- Bytes that lie in memory as a text. -/
theorem conv_bn {w : World} {v : Value} {l : List Int} (h : Bn w v l) (hb : byt l) : (convert 37 9 v).run Tryz.prog w = .ok (.string (ofL l)) w := by
  obtain ⟨a, cap, rfl, h0, h1, h⟩ := h
  rcases h with rfl | ⟨b, o, rfl, hlt, hc⟩
  · cases a with
    | none => exact run_convert_bytes_nil w 37 5 Tryz.underlying37 Tryz.underlying5 0 cap 9 Tryz.underlying9
    | some p => exact run_convert_bytes_back (P := Tryz.prog) w 37 9 5 p cap [] Tryz.underlying37 Tryz.underlying5 Tryz.underlying9 (fun j hj => by simp at hj)
  · have e := run_convert_bytes_back (P := Tryz.prog) w 37 9 5 ⟨b, o, none⟩ cap (i2b l) Tryz.underlying37 Tryz.underlying5 Tryz.underlying9 (fun j hj => by
      have hj' : j < l.length := by simpa [i2b] using hj
      have := hb l[j] (List.getElem_mem hj')
      rw [Addr.add_mid, hc j l[j] (by simp [hj'])]
      simp [i2b]; omega)
    rw [show (i2b l).length = l.length by simp [i2b]] at e
    exact e
theorem Tryz.zeroU8 : ∃ i, Tryz.prog.info? 5 = some i ∧ i.zero = some (.int .u8 0) ∧ i.size = 1 ∧ i.bytes = 1 := by
  obtain ⟨i, z, hi, hz0, hz1, hz2, hz3⟩ := infoU8_parts
  have h : (Tryz.prog.info? 5).bind (·.zero) = some (.int .u8 0) := by kernel_rfl
  rw [hi] at h
  exact ⟨i, hi, h, hz1, hz2⟩
theorem ibs_bl (s : ByteArray) : ibs (bl s) = Lib.strCells s := by simp [ibs, bl, Lib.strCells]
end Go.Proofs.YtelcoihmiglceaaGreat
/-
  The codec: the plain mathematics: what is written, what is read.
-/
namespace Go.Proofs.YtelcoihmiglceaaGreat
open Go.RowKit

/-- A number in so many bytes, the greatest first. -/
def be : Nat → Int → List Int
  | 0, _ => []
  | k + 1, n => (n / (256 : Int) ^ k) % 256 :: be k n
theorem be_len (k : Nat) (n : Int) : (be k n).length = k := by induction k with
  | zero => rfl
  | succ k ih => simp [be, ih]
theorem be_byt (k : Nat) (n : Int) : byt (be k n) := by
  induction k with
  | zero => intro x hx; simp [be] at hx
  | succ k ih =>
    intro x hx
    simp only [be, List.mem_cons] at hx
    rcases hx with rfl | hx
    · have := Int.emod_nonneg (n / (256 : Int) ^ k) (show (256 : Int) ≠ 0 by omega)
      have := Int.emod_lt_of_pos (n / (256 : Int) ^ k) (show (0 : Int) < 256 by omega)
      omega
    · exact ih x hx
/-- A text: its length, and its bytes. -/
def sB (s : ByteArray) : List Int := (s.size : Int) :: bl s
/-- A term's bytes. -/
def tB (t : Tm) : List Int := if t.k = 1 ∨ t.k = 3 then t.k :: be 8 (t.n % 18446744073709551616) else if t.k = 2 then 2 :: sB t.s else [0]
/-- An atom's bytes. -/
def aB (a : At) : List Int := tB a.by_ ++ (sB a.name ++ ((a.args.length : Int) :: a.args.flatMap tB))
/-- Kinds of terms. -/
def knd (t : Tm) : Prop := (t.k = 0 ∨ t.k = 1 ∨ t.k = 2 ∨ t.k = 3) ∧ t.s.size ≤ 64
theorem knd_cov {t : Tm} (h : t.cov = true) : knd t := by
  unfold Tm.cov at h
  simp only [Tm.con, Tm.var, Bool.or_eq_true, decide_eq_true_eq] at h
  unfold knd
  rcases h with (h | h) | h
  · exact ⟨by omega, by rw [h.2]; exact Nat.zero_le _⟩
  · exact ⟨by omega, h.2.2⟩
  · exact ⟨by omega, by rw [h.2.2]; exact Nat.zero_le _⟩
theorem knd_qual {t : Tm} (h : qualOk t = true) : knd t := by
  unfold qualOk at h
  simp only [Tm.prin, Tm.var, Bool.or_eq_true, decide_eq_true_eq] at h
  unfold knd
  rcases h with h | h | h
  · subst h; exact ⟨by simp [zt], Nat.zero_le _⟩
  · exact ⟨by omega, h.2.2.1⟩
  · exact ⟨by omega, by rw [h.2.2]; exact Nat.zero_le _⟩
theorem tB_len (t : Tm) : 0 < (tB t).length ∧ (tB t).length ≤ t.s.size + 9 := by
  unfold tB sB
  split
  · simp [be_len]
  · split
    · simp [bl_len]
    · simp
theorem sB_byt {s : ByteArray} (h : s.size ≤ 255) : byt (sB s) := fun x hx => by
  simp only [sB, List.mem_cons] at hx
  rcases hx with rfl | hx
  · omega
  · exact bl_byt s x hx
theorem tB_byt {t : Tm} (h : knd t) : byt (tB t) := by
  obtain ⟨h, hs⟩ := h
  intro x hx
  unfold tB at hx
  split at hx
  · rcases List.mem_cons.1 hx with rfl | hx
    · omega
    · exact be_byt _ _ x hx
  · split at hx
    · rcases List.mem_cons.1 hx with rfl | hx
      · omega
      · exact sB_byt (by omega) x hx
    · simp at hx; omega
/-- A valid atom: what it is made of. -/
structure Fit (a : At) : Prop where
  by_ : knd a.by_
  nm : a.name.size ≤ 64
  len : a.args.length ≤ 8
  args : ∀ t ∈ a.args, knd t
/-- Numbers of bytes. -/
def val (l : List Int) : Int := l.foldl (fun v b => v * 256 + b) 0
/-- What is read: the thing and what is left, or the error. -/
abbrev Rd (α : Type) := Except Int (α × List Int)
def Rd.and {α β : Type} (x : Rd α) (f : α → List Int → Rd β) : Rd β := match x with
  | .ok (a, r) => f a r
  | .error e => .error e
def rTake (n : Nat) (l : List Int) : Rd (List Int) := if l.length < n then .error 61 else .ok (l.take n, l.drop n)
def rNum (k : Nat) (l : List Int) : Rd Int := (rTake k l).and fun b r => .ok (val b, r)
def rBnd (lo hi : Int) (l : List Int) : Rd Int := (rNum 1 l).and fun n r => if n < lo ∨ hi < n then .error 63 else .ok (n, r)
def rOne (cs : List Int) (l : List Int) : Rd Int := (rNum 1 l).and fun n r => if n ∈ cs then .ok (n, r) else .error 63
def rNat (l : List Int) : Rd Int := (rNum 8 l).and fun n r => if 9223372036854775807 < n then .error 63 else .ok (n, r)
def rText (lo hi : Int) (l : List Int) : Rd ByteArray := (rBnd lo hi l).and fun n r => (rTake n.toNat r).and fun b r => .ok (ofL b, r)
def rTermOf (k lo : Int) (l : List Int) : Rd Tm :=
  if k = 1 then (rNum 8 l).and fun n r => .ok (⟨1, wrap64 n, ⟨#[]⟩⟩, r)
  else if k = 2 then (rText lo 64 l).and fun s r => .ok (⟨2, 0, s⟩, r)
  else if k = 3 then (rNat l).and fun n r => .ok (⟨3, n, ⟨#[]⟩⟩, r)
  else .ok (zt, l)
def rQual (l : List Int) : Rd Tm := (rOne [0, 2, 3] l).and fun k r => rTermOf k 1 r
def rArg (l : List Int) : Rd Tm := (rOne [1, 2, 3] l).and fun k r => rTermOf k 0 r
def rName (l : List Int) : Rd ByteArray := (rText 1 32 l).and fun s r => if nameOk s = true then .ok (s, r) else .error 63
def rMany {α : Type} (one : List Int → Rd α) : Nat → List Int → Rd (List α)
  | 0, l => .ok ([], l)
  | n + 1, l => (one l).and fun a r => (rMany one n r).and fun ts r => .ok (a :: ts, r)
def rAtom (l : List Int) : Rd At := (rQual l).and fun by_ r => (rName r).and fun nm r => (rBnd 0 8 r).and fun n r => (rMany rArg n.toNat r).and fun ts r => .ok (⟨by_, nm, ts⟩, r)
end Go.Proofs.YtelcoihmiglceaaGreat
/-
  The codec, plain: what is written is read back.
-/
namespace Go.Proofs.YtelcoihmiglceaaGreat
open Go.RowKit

theorem fold_be (k : Nat) (n : Int) : ∀ v : Int, (be k n).foldl (fun v b => v * 256 + b) v = v * (256 : Int) ^ k + n % (256 : Int) ^ k := by
  induction k with
  | zero => intro v; simp [be, Int.emod_one]
  | succ k ih =>
    intro v
    simp only [be, List.foldl_cons, ih]
    have hp : (0 : Int) < 256 ^ k := Int.pow_pos (by omega)
    have e : (256 : Int) ^ (k + 1) = 256 ^ k * 256 := Int.pow_succ _ _
    rw [e]
    generalize (256 : Int) ^ k = A at *
    have h1 : n / (A * 256) = n / A / 256 := (Int.ediv_ediv_of_nonneg (Int.le_of_lt hp)).symm
    rw [Int.emod_def n (A * 256), h1, Int.emod_def n A, Int.emod_def (n / A) 256]
    generalize n / A = q
    generalize q / 256 = r
    grind
theorem val_be (k : Nat) (n : Int) : val (be k n) = n % (256 : Int) ^ k := by
  unfold val; rw [fold_be]; simp
theorem rTake_app (l r : List Int) : rTake l.length (l ++ r) = .ok (l, r) := by
  unfold rTake
  rw [if_neg (by simp)]
  simp
theorem rNum_be (k : Nat) (n : Int) (r : List Int) (h0 : 0 ≤ n) (h1 : n < (256 : Int) ^ k) : rNum k (be k n ++ r) = .ok (n, r) := by
  have := rTake_app (be k n) r
  rw [be_len] at this
  unfold rNum
  rw [this]
  simp only [Rd.and, val_be, Int.emod_eq_of_lt h0 h1]
theorem rNum_one (n : Int) (r : List Int) : rNum 1 (n :: r) = .ok (n, r) := by
  unfold rNum rTake
  simp [Rd.and, val]
theorem rBnd_one {lo hi n : Int} (r : List Int) (h0 : lo ≤ n) (h1 : n ≤ hi) : rBnd lo hi (n :: r) = .ok (n, r) := by
  unfold rBnd
  rw [rNum_one]
  simp only [Rd.and]
  rw [if_neg (by omega)]
theorem rOne_one {cs : List Int} {n : Int} (r : List Int) (h : n ∈ cs) : rOne cs (n :: r) = .ok (n, r) := by
  unfold rOne
  rw [rNum_one]
  simp only [Rd.and]
  rw [if_pos h]
theorem rText_sB {lo hi : Int} {s : ByteArray} (r : List Int) (h0 : lo ≤ s.size) (h1 : (s.size : Int) ≤ hi) : rText lo hi (sB s ++ r) = .ok (ofL (bl s), r) := by
  have := rTake_app (bl s) r
  rw [bl_len] at this
  unfold rText sB
  rw [List.cons_append, rBnd_one _ h0 h1]
  simp only [Rd.and, Int.toNat_natCast]
  rw [this]
theorem rMany_flat {α : Type} {one : List Int → Rd α} {f : α → List Int} : ∀ (L : List α) (r : List Int), (∀ x ∈ L, ∀ r, one (f x ++ r) = .ok (x, r)) → rMany one L.length (L.flatMap f ++ r) = .ok (L, r)
  | [], r, _ => by simp [rMany]
  | x :: L, r, h => by
    simp only [List.flatMap_cons, List.append_assoc, List.length_cons, rMany]
    rw [h x (by simp)]
    simp only [Rd.and]
    rw [rMany_flat L r (fun y hy => h y (by simp [hy]))]
end Go.Proofs.YtelcoihmiglceaaGreat
/-
  The codec reads: the reader; take, number.
-/
namespace Go.Proofs.YtelcoihmiglceaaGreat
open Go.RowKit

/-- Below B the world is as it was, but for block m. -/
structure Bv (m B : Nat) (w w' : World) : Prop where
  os : w'.os = w.os
  tape : w'.tape = w.tape
  output : w'.output = w.output
  size : w.heap.size ≤ w'.heap.size
  block : ∀ k, k < B → k ≠ m → w'.heap[k]? = w.heap[k]?
theorem Bv.of {m B : Nat} {w w' : World} (h : Below B w w') : Bv m B w w' := ⟨h.os, h.tape, h.output, h.size, fun k hk _ => h.block k hk⟩
theorem Bv.refl (m B : Nat) (w : World) : Bv m B w w := Bv.of (Below.refl _ _)
theorem Bv.trans {m B : Nat} {a b c : World} (h : Bv m B a b) (k : Bv m B b c) : Bv m B a c :=
  ⟨k.os.trans h.os, k.tape.trans h.tape, k.output.trans h.output, Nat.le_trans h.size k.size, fun i hi hm => (k.block i hi hm).trans (h.block i hi hm)⟩
theorem Bv.mono {m B B' : Nat} {w w' : World} (h : Bv m B w w') (hB : B' ≤ B) : Bv m B' w w' := ⟨h.os, h.tape, h.output, h.size, fun k hk => h.block k (Nat.lt_of_lt_of_le hk hB)⟩
theorem Bv.step {m : Nat} {W w' w3 : World} (h : Bv m W.heap.size W w') (h3 : Bv m w'.heap.size w' w3) : Bv m W.heap.size W w3 := h.trans (h3.mono h.size)
theorem Bv.cell {m B : Nat} {w w' : World} (h : Bv m B w w') {p : Addr} (hp : p.block < B) (hm : p.block ≠ m) : w'.cell? p = w.cell? p := World.cell?_of_block (w := w) (h.block p.block hp hm)
theorem cell_stepV {m B : Nat} {w' w3 : World} {b o : Nat} {v : Value} (h3 : Bv m B w' w3) (hb : b < B) (hm : b ≠ m) (hc : w'.cell? ⟨b, o, none⟩ = some v) : w3.cell? ⟨b, o, none⟩ = some v := by
  rw [h3.cell (p := ⟨b, o, none⟩) hb hm]; exact hc
theorem Bv.below {m B : Nat} {w w' : World} (h : Bv m B w w') (hm : B ≤ m) : Below B w w' := ⟨h.os, h.tape, h.output, h.size, fun k hk => h.block k hk (by omega)⟩
/-- Bytes that a reader looks at: in another block than its own. -/
def Bg (g : Nat) (w : World) (v : Value) (l : List Int) : Prop := ∃ b o cap, v = .slice (some ⟨b, o, none⟩) l.length cap ∧ l.length < cap ∧ l.length < 1000000000000000000 ∧ b < g ∧ b < w.heap.size ∧ ∀ (i : Nat) (x : Int), l[i]? = some x → w.cell? ⟨b, o + i, none⟩ = some (.int .u8 x)
theorem Bg.bl {g : Nat} {w w' : World} {v : Value} {l : List Int} (h : Bg g w v l) (hb : Bv g w.heap.size w w') : Bg g w' v l := by
  obtain ⟨b, o, cap, rfl, h0, h1, h2, h3, h4⟩ := h
  exact ⟨b, o, cap, rfl, h0, h1, h2, Nat.lt_of_lt_of_le h3 hb.size, fun i x hx => cell_stepV hb h3 (by omega) (h4 i x hx)⟩
theorem Bg.bn {g : Nat} {w : World} {v : Value} {l : List Int} (h : Bg g w v l) : Bn w v l := by
  obtain ⟨b, o, cap, rfl, h0, h1, h2, h3, h4⟩ := h
  exact ⟨_, cap, rfl, by omega, by omega, Or.inr ⟨b, o, rfl, h3, h4⟩⟩
/-- The reader in block g, and what it has still to read. -/
def RdS (w : World) (g : Nat) (l : List Int) : Prop := byt l ∧ ∃ v, Blk w g #[v] 130 ∧ Bg g w v l
theorem RdS.below {w w' : World} {g : Nat} {l : List Int} (h : RdS w g l) (hb : Below w.heap.size w w') : RdS w' g l := by
  obtain ⟨hy, v, h1, h2⟩ := h
  exact ⟨hy, v, h1.later hb, h2.bl (Bv.of hb)⟩
theorem RdS.off {w : World} {g G i : Nat} {c : Value} {l : List Int} (h : RdS w g l) (hG : g < G) : RdS (w.setCell ⟨G, i, none⟩ c) g l := by
  obtain ⟨hy, v, h1, b, o, cap, rfl, h0, h2, h3, h4, h5⟩ := h
  refine ⟨hy, _, ?_, b, o, cap, rfl, h0, h2, h3, by simpa using h4, fun j x hx => ?_⟩
  · exact (heap_setCell_other _ _ _ _ (by show g ≠ G; omega)).trans h1
  · have hne : (⟨G, i, none⟩ : Addr) ≠ ⟨b, o + j, none⟩ := by intro e; injection e; omega
    have := World.cell?_setCell_other w ⟨G, i, none⟩ ⟨b, o + j, none⟩ c hne
    rw [this]; exact h5 j x hx
theorem RdS.lt {w : World} {g : Nat} {l : List Int} (h : RdS w g l) : g < w.heap.size := by
  obtain ⟨hy, v, h1, -⟩ := h
  exact h1.lt
theorem Blk.bl {g : Nat} {w w' : World} {k : Nat} {c : Array Value} {t : TypeId} (h : Blk w k c t) (hb : Bv g w.heap.size w w') (hk : k ≠ g) : Blk w' k c t := (hb.block _ h.lt hk).trans h
/-- What a reader gives up with. -/
def pE (c : Int) : PanicEntry := { v := .iface 38 (.int .i64 c), recovered := false }
theorem Blk.one {w : World} {g : Nat} {v : Value} {t : TypeId} (h : Blk w g #[v] t) : w.cell? ⟨g, 0, none⟩ = some v ∧ w.frozen? ⟨g, 0, none⟩ = false := by
  unfold Blk at h
  constructor
  · simp [World.cell?, h]
  · simp [World.frozen?, h]
theorem Bv.set {g : Nat} (w : World) (o : Nat) (u : Value) (B : Nat) : Bv g B w (w.setCell ⟨g, o, none⟩ u) := by
  have := Below.setCell (Below.refl g w) (p := ⟨g, o, none⟩) (Nat.le_refl _) u
  exact ⟨this.os, this.tape, this.output, this.size, fun k _ hk => heap_setCell_other _ _ _ _ hk⟩
theorem Bg.cut {g : Nat} {w : World} {b o cap : Nat} {l : List Int} (n : Nat) (hn : n ≤ l.length) (h2 : l.length < cap) (h3 : l.length < 1000000000000000000) (h4 : b < g) (h5 : b < w.heap.size) (h6 : ∀ (i : Nat) (x : Int), l[i]? = some x → w.cell? ⟨b, o + i, none⟩ = some (.int .u8 x)) :
    Bg g w (.slice (some ⟨b, o, none⟩) n cap) (l.take n) ∧ Bg g w (.slice (some ⟨b, o + n, none⟩) (l.length - n) (cap - n)) (l.drop n) := by
  have e1 : (l.take n).length = n := by rw [List.length_take]; omega
  have e2 : (l.drop n).length = l.length - n := List.length_drop
  refine ⟨⟨b, o, cap, by rw [e1], by omega, by omega, h4, h5, fun i x hx => ?_⟩, ⟨b, o + n, cap - n, by rw [e2], by omega, by omega, h4, h5, fun i x hx => ?_⟩⟩
  · have : i < n := by have := (List.getElem?_eq_some_iff.1 hx).1; omega
    rw [List.getElem?_take_of_lt this] at hx
    exact h6 i x hx
  · rw [List.getElem?_drop] at hx
    rw [Nat.add_assoc]; exact h6 _ x hx
/-- What a call of the reader leaves. -/
def RdP {α : Type} (g : Nat) (w : World) (V : α → Value → World → Prop) (r : Rd α) (e : Ending) (w' : World) : Prop :=
  Bv g w.heap.size w w' ∧ match r with
    | .ok (a, rest) => ∃ v, e = .returned v ∧ V a v w' ∧ RdS w' g rest
    | .error c => e = .panicked [pE c]
theorem RdP.err {α : Type} {f : FuncId} {args : Array Value} {g : Nat} {w : World} {V : α → Value → World → Prop} {r : Rd α} {c : Int} (h : Calls Tryz.prog f args w (RdP g w V r)) (hr : r = .error c) :
    Calls Tryz.prog f args w fun e w' => e = .panicked [pE c] ∧ Bv g w.heap.size w w' := by
  subst hr
  exact h.mono fun e w' h => ⟨h.2, h.1⟩
theorem RdP.ok {α : Type} {f : FuncId} {args : Array Value} {g : Nat} {w : World} {V : α → Value → World → Prop} {r : Rd α} {a : α} {rest : List Int} (h : Calls Tryz.prog f args w (RdP g w V r)) (hr : r = .ok (a, rest)) :
    Calls Tryz.prog f args w fun e w' => ∃ v, e = .returned v ∧ V a v w' ∧ RdS w' g rest ∧ Bv g w.heap.size w w' := by
  subst hr
  exact h.mono fun e w' h => by obtain ⟨hb, v, h1, h2, h3⟩ := h; exact ⟨v, h1, h2, h3, hb⟩
end Go.Proofs.YtelcoihmiglceaaGreat
