import Derived.Test.YtmbmchbninlhpaaGreatDoorMD8
import Derived.Test.YtmbmchbninlhpaaGreatDoorMD2
import Derived.Deep.RegionHeld3
import Derived.BigQuiet
import Derived.Laws.OwnMore
import Derived.Deep.CutRange
import Derived.Deep.DrawnRows
import Derived.WalkMore
import Derived.WalkSmall
import Derived.Deep.AppendLies
import Derived.Laws.IdiomStrings
import Derived.Lib.AppendStr
import Derived.Laws.BytesArg
namespace Go.Proofs.YtmbmchbninlhpaaGreatDoor
open Go.RowKit

def ibs (l : List Int) : List Value := l.map (Value.int .u8)
def OwnB (w : World) (base : Nat) (v : Value) (l : List Int) : Prop := w.ownsRow base 5 1 v l.length (ibs l)
theorem OwnB.later {w w' : World} {base : Nat} {v : Value} {l : List Int} (h : OwnB w base v l) (hb : Below w.heap.size w w') : OwnB w' base v l := by
 refine ⟨h.1, ?_⟩
 rcases h.2 with hn | ⟨g, cap, cur, hv, hbb, hg, rest⟩
 ·exact Or.inl hn
 ·exact Or.inr ⟨g, cap, cur, hv, hbb, (hb.block g (Array.getElem?_eq_some_iff.1 hg).1).trans hg, rest⟩
theorem ownB_nil (w : World) (base : Nat) : OwnB w base (.slice none 0 0) [] := World.ownsRow_nil _ _ _ _
theorem OwnB.mono {w : World} {base B : Nat} {v : Value} {l : List Int} (h : OwnB w base v l) (hb : B <= base) : OwnB w B v l := by
 refine ⟨h.1, ?_⟩
 rcases h.2 with hn | ⟨g, cap, cur, hv, hbb, rest⟩
 ·exact Or.inl hn
 ·exact Or.inr ⟨g, cap, cur, hv, Nat.le_trans hb hbb, rest⟩
theorem OwnB.lit (w : World) (l : List Int) (hl : l.length <= 100000000) : OwnB (w.alloc (.cells (ibs l).toArray 5)) w.heap.size (.slice (some ⟨w.heap.size, 0, none⟩) l.length l.length) l :=
 World.ownsRow_lit w (ibs l).toArray l.length (Nat.le_refl _) (by unfold maxLen; omega) (by simp [ibs])
theorem Tryz.infoU8 : (Tryz.prog.info? 5).map (fun i => (i.size, i.bytes, i.zero.map (·.cells.size))) = some (1, 1, some 1) := by kernel_rfl
theorem infoU8_parts : ∃ (i : TypeInfo) (z : Value), Tryz.prog.info? 5 = some i /\ i.zero = some z /\ i.size = 1 /\ i.bytes = 1 /\ z.cells.size = 1 := by
 have h := Tryz.infoU8
 cases hi : Tryz.prog.info? 5 with
 | none => rw [hi] at h; simp at h
 | some i =>
  rw [hi] at h
  simp only [Option.map_some, Option.some.injEq, Prod.mk.injEq] at h
  obtain ⟨h1, h2, h3⟩ := h
  cases hz : i.zero with
  | none => rw [hz] at h3; simp at h3
  | some z => rw [hz] at h3; simp only [Option.map_some, Option.some.injEq] at h3; exact ⟨i, z, rfl, hz, h1, h2, h3⟩
theorem grown_below {w w' : World} {base : Nat} {v : Value} (hg : w.grownBy w' v.ownBlock) (h : ∀ k, v.ownBlock = some k -> base <= k) (hb : base <= w.heap.size) : Below base w w' :=
 ⟨hg.os, hg.tape, hg.output, hg.size, fun k hk => hg.block k (by omega) (fun e => by have := h k e.symm; omega)⟩
def Bn (w : World) (v : Value) (l : List Int) : Prop := ∃ a cap, v = .slice a l.length cap /\ l.length <= cap /\ l.length < 1000000000000000000 /\ (l = [] ∨ ∃ b o, a = some ⟨b, o, none⟩ /\ b < w.heap.size /\ ∀ (i : Nat) (x : Int), l[i]? = some x -> w.cell? ⟨b, o + i, none⟩ = some (.int .u8 x))
theorem Bn.later {w w' : World} {v : Value} {l : List Int} (h : Bn w v l) (hb : Below w.heap.size w w') : Bn w' v l := by
 obtain ⟨a, cap, rfl, h0, h1, h⟩ := h
 refine ⟨a, cap, rfl, h0, h1, h.imp id ?_⟩
 rintro ⟨b, o, rfl, hlt, hc⟩
 exact ⟨b, o, rfl, Nat.lt_of_lt_of_le hlt hb.size, fun i x hx => cell_step hb hlt (hc i x hx)⟩
theorem OwnB.bn {w : World} {base : Nat} {v : Value} {l : List Int} (h : OwnB w base v l) (hl : l.length < 1000000000000000000) : Bn w v l := by
 rcases h.2 with ⟨hv, hn⟩ | ⟨g, cap, cur, hv, -, hg, hn, -, -, -⟩
 ·have : l = [] := List.eq_nil_of_length_eq_zero hn
  subst this
  exact ⟨none, 0, hv, Nat.le_refl _, hl, Or.inl rfl⟩
 ·refine ⟨some ⟨g, 0, none⟩, cap, hv, hn, hl, Or.inr ⟨g, 0, rfl, (Array.getElem?_eq_some_iff.1 hg).1, fun i x hx => ?_⟩⟩
  have := World.ownsRow.cells h (g := g) (by rw [hv]; rfl) i (.int .u8 x) (by simp [ibs, hx])
  rw [Addr.add_mid] at this
  exact this
def i2b (l : List Int) : List UInt8 := l.map fun x => UInt8.ofNat x.toNat
def byt (l : List Int) : Prop := ∀ x ∈ l, 0 <= x /\ x <= 255
def bl (s : ByteArray) : List Int := s.data.toList.map fun b => (b.toNat : Int)
def ofL (l : List Int) : ByteArray := ⟨(i2b l).toArray⟩
theorem bl_len (s : ByteArray) : (bl s).length = s.size := by simp [bl]
theorem ofL_size (l : List Int) : (ofL l).size = l.length := by show (i2b l).toArray.size = _; simp [i2b]
theorem bl_byt (s : ByteArray) : byt (bl s) := fun x hx => by
 simp only [bl, List.mem_map] at hx
 obtain ⟨b, -, rfl⟩ := hx
 have := b.toNat_lt; omega
theorem i2b_map (l : List UInt8) : i2b (l.map fun b => (b.toNat : Int)) = l := by
 induction l with
 | nil => rfl
 | cons b l ih => simp only [i2b, List.map_cons] at ih ⊢; rw [ih]; simp
theorem ofL_bl (s : ByteArray) : ofL (bl s) = s := by
 unfold ofL bl; rw [i2b_map]
theorem bl_ofL {l : List Int} (h : byt l) : bl (ofL l) = l := by
 unfold bl ofL i2b
 induction l with
 | nil => rfl
 | cons x l ih =>
  simp only [List.map_cons] at ih ⊢
  have hx := h x (by simp)
  have e := ih (fun y hy => h y (by simp [hy]))
  rw [e]
  congr 1
  simp; omega
theorem byt.app {l m : List Int} (h : byt l) (k : byt m) : byt (l ++ m) := fun x hx => (List.mem_append.1 hx).elim (h x) (k x)
theorem conv_bn {w : World} {v : Value} {l : List Int} (h : Bn w v l) (hb : byt l) : (convert 26 9 v).run Tryz.prog w = .ok (.string (ofL l)) w := by
 obtain ⟨a, cap, rfl, h0, h1, h⟩ := h
 rcases h with rfl | ⟨b, o, rfl, hlt, hc⟩
 ·cases a with
  | none => exact run_convert_bytes_nil w 26 5 Tryz.underlying26 Tryz.underlying5 0 cap 9 Tryz.underlying9
  | some p => exact run_convert_bytes_back (P := Tryz.prog) w 26 9 5 p cap [] Tryz.underlying26 Tryz.underlying5 Tryz.underlying9 (fun j hj => by simp at hj)
 ·have e := run_convert_bytes_back (P := Tryz.prog) w 26 9 5 ⟨b, o, none⟩ cap (i2b l) Tryz.underlying26 Tryz.underlying5 Tryz.underlying9 (fun j hj => by
   have hj' : j < l.length := by simpa [i2b] using hj
   have := hb l[j] (List.getElem_mem hj')
   rw [Addr.add_mid, hc j l[j] (by simp [hj'])]
   simp [i2b]; omega)
  rw [show (i2b l).length = l.length by simp [i2b]] at e
  exact e
theorem Tryz.zeroU8 : ∃ i, Tryz.prog.info? 5 = some i /\ i.zero = some (.int .u8 0) /\ i.size = 1 /\ i.bytes = 1 := by
 obtain ⟨i, z, hi, hz0, hz1, hz2, hz3⟩ := infoU8_parts
 have h : (Tryz.prog.info? 5).bind (·.zero) = some (.int .u8 0) := by kernel_rfl
 rw [hi] at h
 exact ⟨i, hi, h, hz1, hz2⟩
theorem ibs_bl (s : ByteArray) : ibs (bl s) = Lib.strCells s := by simp [ibs, bl, Lib.strCells]
end Go.Proofs.YtmbmchbninlhpaaGreatDoor
namespace Go.Proofs.YtmbmchbninlhpaaGreatDoor
open Go.RowKit

def be : Nat -> Int -> List Int
 | 0, _ => []
 | k + 1, n => (n / (256 : Int) ^ k) % 256 :: be k n
theorem be_len (k : Nat) (n : Int) : (be k n).length = k := by induction k with
 | zero => rfl
 | succ k ih => simp [be, ih]
theorem be_byt (k : Nat) (n : Int) : byt (be k n) := by
 induction k with
 | zero => intro x hx; simp [be] at hx
 | succ k ih =>
  intro x hx
  simp only [be, List.mem_cons] at hx
  rcases hx with rfl | hx
  ·have := Int.emod_nonneg (n / (256 : Int) ^ k) (show (256 : Int) ≠ 0 by omega)
   have := Int.emod_lt_of_pos (n / (256 : Int) ^ k) (show (0 : Int) < 256 by omega)
   omega
  ·exact ih x hx
def sB (s : ByteArray) : List Int := (s.size : Int) :: bl s
def tB (t : Tm) : List Int := if t.k = 1 ∨ t.k = 3 then t.k :: be 8 (t.n % 18446744073709551616) else if t.k = 2 then 2 :: sB t.s else [0]
def aB (a : At) : List Int := tB a.by_ ++ (sB a.name ++ ((a.args.length : Int) :: a.args.flatMap tB))
def knd (t : Tm) : Prop := (t.k = 0 ∨ t.k = 1 ∨ t.k = 2 ∨ t.k = 3) /\ t.s.size <= 64
theorem knd_cov {t : Tm} (h : t.cov = true) : knd t := by
 unfold Tm.cov at h
 simp only [Tm.con, Tm.var, Bool.or_eq_true, decide_eq_true_eq] at h
 unfold knd
 rcases h with (h | h) | h
 ·exact ⟨by omega, by rw [h.2]; exact Nat.zero_le _⟩
 ·exact ⟨by omega, h.2.2⟩
 ·exact ⟨by omega, by rw [h.2.2]; exact Nat.zero_le _⟩
theorem knd_qual {t : Tm} (h : qualOk t = true) : knd t := by
 unfold qualOk at h
 simp only [Tm.prin, Tm.var, Bool.or_eq_true, decide_eq_true_eq] at h
 unfold knd
 rcases h with h | h | h
 ·subst h; exact ⟨by simp [zt], Nat.zero_le _⟩
 ·exact ⟨by omega, h.2.2.1⟩
 ·exact ⟨by omega, by rw [h.2.2]; exact Nat.zero_le _⟩
theorem tB_len (t : Tm) : 0 < (tB t).length /\ (tB t).length <= t.s.size + 9 := by
 unfold tB sB
 split
 ·simp [be_len]
 ·split
  ·simp [bl_len]
  ·simp
theorem sB_byt {s : ByteArray} (h : s.size <= 255) : byt (sB s) := fun x hx => by
 simp only [sB, List.mem_cons] at hx
 rcases hx with rfl | hx
 ·omega
 ·exact bl_byt s x hx
theorem tB_byt {t : Tm} (h : knd t) : byt (tB t) := by
 obtain ⟨h, hs⟩ := h
 intro x hx
 unfold tB at hx
 split at hx
 ·rcases List.mem_cons.1 hx with rfl | hx
  ·omega
  ·exact be_byt _ _ x hx
 ·split at hx
  ·rcases List.mem_cons.1 hx with rfl | hx
   ·omega
   ·exact sB_byt (by omega) x hx
  ·simp at hx; omega
structure Fit (a : At) : Prop where
 by_ : knd a.by_
 nm : a.name.size <= 64
 len : a.args.length <= 8
 args : ∀ t ∈ a.args, knd t
def val (l : List Int) : Int := l.foldl (fun v b => v * 256 + b) 0
theorem val_snoc (l : List Int) (b : Int) : val (l ++ [b]) = val l * 256 + b := by simp [val]
theorem val_rng {l : List Int} (h : byt l) : 0 <= val l /\ val l < (256 : Int) ^ l.length := by
 suffices H : ∀ (l : List Int) (v : Int) (k : Nat), byt l -> 0 <= v -> v < (256 : Int) ^ k -> 0 <= l.foldl (fun v b => v * 256 + b) v /\ l.foldl (fun v b => v * 256 + b) v < (256 : Int) ^ (k + l.length) by
  have := H l 0 0 h (by omega) (by simp)
  simpa [val] using this
 intro l
 induction l with
 | nil => intro v k _ h0 h1; simpa using ⟨h0, h1⟩
 | cons b l ih =>
  intro v k hb h0 h1
  have hx := hb b (by simp)
  have e : (256 : Int) ^ (k + 1) = (256 : Int) ^ k * 256 := Int.pow_succ _ _
  have := ih (v * 256 + b) (k + 1) (fun x hx => hb x (by simp [hx])) (by omega) (by omega)
  simpa [Nat.add_assoc, Nat.add_comm 1] using this
abbrev Rd (α : Type) := Except Int (α × List Int)
def Rd.and {α β : Type} (x : Rd α) (f : α -> List Int -> Rd β) : Rd β := match x with
 | .ok (a, r) => f a r
 | .error e => .error e
def rTake (n : Nat) (l : List Int) : Rd (List Int) := if l.length < n then .error 61 else .ok (l.take n, l.drop n)
def rNum (k : Nat) (l : List Int) : Rd Int := (rTake k l).and fun b r => .ok (val b, r)
def rBnd (lo hi : Int) (l : List Int) : Rd Int := (rNum 1 l).and fun n r => if n < lo ∨ hi < n then .error 63 else .ok (n, r)
def rOne (cs : List Int) (l : List Int) : Rd Int := (rNum 1 l).and fun n r => if n ∈ cs then .ok (n, r) else .error 63
def rNat (l : List Int) : Rd Int := (rNum 8 l).and fun n r => if 9223372036854775807 < n then .error 63 else .ok (n, r)
def rText (lo hi : Int) (l : List Int) : Rd ByteArray := (rBnd lo hi l).and fun n r => (rTake n.toNat r).and fun b r => .ok (ofL b, r)
def rTermOf (k lo : Int) (l : List Int) : Rd Tm :=
 if k = 1 then (rNum 8 l).and fun n r => .ok (⟨1, wrap64 n, ⟨#[]⟩⟩, r)
 else if k = 2 then (rText lo 64 l).and fun s r => .ok (⟨2, 0, s⟩, r)
 else if k = 3 then (rNat l).and fun n r => .ok (⟨3, n, ⟨#[]⟩⟩, r)
 else .ok (zt, l)
def rQual (l : List Int) : Rd Tm := (rOne [0, 2, 3] l).and fun k r => rTermOf k 1 r
def rArg (l : List Int) : Rd Tm := (rOne [1, 2, 3] l).and fun k r => rTermOf k 0 r
def rName (l : List Int) : Rd ByteArray := (rText 1 32 l).and fun s r => if nameOk s = true then .ok (s, r) else .error 63
def rMany {α : Type} (one : List Int -> Rd α) : Nat -> List Int -> Rd (List α)
 | 0, l => .ok ([], l)
 | n + 1, l => (one l).and fun a r => (rMany one n r).and fun ts r => .ok (a :: ts, r)
def rAtom (l : List Int) : Rd At := (rQual l).and fun by_ r => (rName r).and fun nm r => (rBnd 0 8 r).and fun n r => (rMany rArg n.toNat r).and fun ts r => .ok (⟨by_, nm, ts⟩, r)
def rWhole {α : Type} (one : List Int -> Rd α) (l : List Int) : Except Int α := match one l with
 | .ok (a, r) => if r = [] then .ok a else .error 62
 | .error e => .error e
end Go.Proofs.YtmbmchbninlhpaaGreatDoor
namespace Go.Proofs.YtmbmchbninlhpaaGreatDoor
open Go.RowKit

structure Qs where
 at_ : Nat
 er : Int
def stp (c : Int) (s : Qs) : Qs := if s.er = 0 then ⟨s.at_, c⟩ else s
def qTake (B : List Int) (n : Nat) (s : Qs) : List Int × Qs :=
 if s.er ≠ 0 then ([], s) else if B.length < s.at_ + n then ([], ⟨s.at_, 61⟩) else ((B.drop s.at_).take n, ⟨s.at_ + n, 0⟩)
def qNum (B : List Int) (k : Nat) (s : Qs) : Int × Qs := (val (qTake B k s).1, (qTake B k s).2)
def qSmall (B : List Int) (lo hi : Int) (s : Qs) : Int × Qs := if (qNum B 1 s).1 < lo ∨ hi < (qNum B 1 s).1 then (0, stp 63 (qNum B 1 s).2) else qNum B 1 s
def qNat (B : List Int) (s : Qs) : Int × Qs := if 9223372036854775808 <= (qNum B 8 s).1 then (0, stp 63 (qNum B 8 s).2) else qNum B 8 s
def qText (B : List Int) (lo : Int) (s : Qs) : Tm × Qs := (⟨2, 0, ofL (qTake B (qSmall B lo 64 s).1.toNat (qSmall B lo 64 s).2).1⟩, (qTake B (qSmall B lo 64 s).1.toNat (qSmall B lo 64 s).2).2)
def qTermK (B : List Int) (no nu va : Bool) (k : Int) (s : Qs) : Tm × Qs :=
 if s.er ≠ 0 then (zt, s)
 else if (k = 0 /\ no = false) ∨ (k = 1 /\ nu = false) ∨ (k = 3 /\ va = false) then (zt, stp 63 s)
 else if k = 1 then (⟨1, wrap64 (qNum B 8 s).1, ⟨#[]⟩⟩, (qNum B 8 s).2)
 else if k = 2 then (if no = true then qText B 1 s else qText B 0 s)
 else if k = 3 then (⟨3, (qNat B s).1, ⟨#[]⟩⟩, (qNat B s).2)
 else (zt, s)
def qTerm (B : List Int) (no nu va : Bool) (s : Qs) : Tm × Qs := qTermK B no nu va (qSmall B 0 3 s).1 (qSmall B 0 3 s).2
def qArgs (B : List Int) : Nat -> Qs -> List Tm × Qs
 | 0, s => ([], s)
 | k + 1, s => if s.er ≠ 0 then ([], s) else ((qTerm B false true true s).1 :: (qArgs B k (qTerm B false true true s).2).1, (qArgs B k (qTerm B false true true s).2).2)
def qNm (nm : ByteArray) (s : Qs) : Qs := if s.er = 0 /\ nameOk nm = false then ⟨s.at_, 63⟩ else s
def qName (B : List Int) (s : Qs) : ByteArray × Qs := (ofL (qTake B (qSmall B 1 32 s).1.toNat (qSmall B 1 32 s).2).1, (qTake B (qSmall B 1 32 s).1.toNat (qSmall B 1 32 s).2).2)
def qAtomN (B : List Int) (t : Tm) (nm : ByteArray) (s : Qs) : At × Qs := (⟨t, nm, (qArgs B (qSmall B 0 8 s).1.toNat (qSmall B 0 8 s).2).1⟩, (qArgs B (qSmall B 0 8 s).1.toNat (qSmall B 0 8 s).2).2)
def qAtom (B : List Int) (s : Qs) : At × Qs := qAtomN B (qTerm B true false true s).1 (qName B (qTerm B true false true s).2).1 (qNm (qName B (qTerm B true false true s).2).1 (qName B (qTerm B true false true s).2).2)
def Tog {α : Type} (B : List Int) (r : Rd α) (q : α × Qs) : Prop := match r with
 | .ok (a, rest) => q.1 = a /\ q.2.er = 0 /\ q.2.at_ <= B.length /\ B.drop q.2.at_ = rest
 | .error c => q.2.er = c /\ c ≠ 0 /\ q.2.at_ <= B.length
theorem stp_ne {c : Int} {s : Qs} (h : s.er ≠ 0) : stp c s = s := if_neg h
theorem stp_0 {c : Int} {s : Qs} (h : s.er = 0) : stp c s = ⟨s.at_, c⟩ := if_pos h
theorem qTake_ne {B : List Int} {n : Nat} {s : Qs} (h : s.er ≠ 0) : qTake B n s = ([], s) := if_pos h
theorem qNum_ne {B : List Int} {k : Nat} {s : Qs} (h : s.er ≠ 0) : qNum B k s = (0, s) := by unfold qNum; rw [qTake_ne h]; rfl
theorem qSmall_ne {B : List Int} {lo hi : Int} {s : Qs} (h : s.er ≠ 0) : qSmall B lo hi s = (0, s) := by
 unfold qSmall
 rw [qNum_ne h, stp_ne h]
 split <;> rfl
theorem qArgs_ne {B : List Int} {k : Nat} {s : Qs} (h : s.er ≠ 0) : qArgs B k s = ([], s) := by
 cases k with
 | zero => rfl
 | succ k => unfold qArgs; rw [if_pos h]
theorem tog_take {B : List Int} {n : Nat} {s : Qs} (h : s.er = 0) (hs : s.at_ <= B.length) : Tog B (rTake n (B.drop s.at_)) (qTake B n s) := by
 unfold rTake qTake
 rw [if_neg (show ¬ s.er ≠ 0 by rw [h]; simp), List.length_drop]
 by_cases hn : B.length < s.at_ + n
 ·rw [if_pos hn, if_pos (by omega)]
  exact ⟨rfl, by omega, hs⟩
 ·rw [if_neg hn, if_neg (by omega)]
  exact ⟨rfl, rfl, by simp only; omega, by rw [List.drop_drop]⟩
theorem tog_num {B : List Int} {k : Nat} {s : Qs} (h : s.er = 0) (hs : s.at_ <= B.length) : Tog B (rNum k (B.drop s.at_)) (qNum B k s) := by
 have ht := tog_take (n := k) h hs
 unfold rNum qNum
 rcases hr : rTake k (B.drop s.at_) with c | ⟨b, r⟩
 ·rw [hr] at ht; exact ht
 ·rw [hr] at ht
  exact ⟨by rw [ht.1], ht.2⟩
theorem tog_small {B : List Int} {lo hi : Int} {s : Qs} (h : s.er = 0) (hs : s.at_ <= B.length) : Tog B (rBnd lo hi (B.drop s.at_)) (qSmall B lo hi s) := by
 have ht := tog_num (k := 1) h hs
 unfold rBnd qSmall
 rcases hr : rNum 1 (B.drop s.at_) with c | ⟨n, r⟩
 ·rw [hr] at ht
  obtain ⟨h1, h2, h3⟩ := ht
  simp only [Rd.and]
  split
  ·rw [stp_ne (by rw [h1]; exact h2)]; exact ⟨h1, h2, h3⟩
  ·exact ⟨h1, h2, h3⟩
 ·rw [hr] at ht
  obtain ⟨h1, h2, h3, h4⟩ := ht
  simp only [Rd.and]
  rw [h1]
  split
  ·rw [stp_0 h2]; exact ⟨rfl, by omega, h3⟩
  ·exact ⟨h1, h2, h3, h4⟩
theorem tog_nat {B : List Int} {s : Qs} (h : s.er = 0) (hs : s.at_ <= B.length) : Tog B (rNat (B.drop s.at_)) (qNat B s) := by
 have ht := tog_num (k := 8) h hs
 unfold rNat qNat
 rcases hr : rNum 8 (B.drop s.at_) with c | ⟨n, r⟩
 ·rw [hr] at ht
  obtain ⟨h1, h2, h3⟩ := ht
  simp only [Rd.and]
  split
  ·rw [stp_ne (by rw [h1]; exact h2)]; exact ⟨h1, h2, h3⟩
  ·exact ⟨h1, h2, h3⟩
 ·rw [hr] at ht
  obtain ⟨h1, h2, h3, h4⟩ := ht
  simp only [Rd.and]
  rw [h1]
  by_cases hn : 9223372036854775807 < n
  ·rw [if_pos hn, if_pos (by omega), stp_0 h2]; exact ⟨rfl, by omega, h3⟩
  ·rw [if_neg hn, if_neg (by omega)]; exact ⟨h1, h2, h3, h4⟩
theorem tog_bytes {B : List Int} {lo hi : Int} {s : Qs} (h : s.er = 0) (hs : s.at_ <= B.length) :
  Tog B (rText lo hi (B.drop s.at_)) (ofL (qTake B (qSmall B lo hi s).1.toNat (qSmall B lo hi s).2).1, (qTake B (qSmall B lo hi s).1.toNat (qSmall B lo hi s).2).2) := by
 have ht := tog_small (lo := lo) (hi := hi) h hs
 unfold rText
 rcases hr : rBnd lo hi (B.drop s.at_) with c | ⟨n, r⟩
 ·rw [hr] at ht
  obtain ⟨h1, h2, h3⟩ := ht
  simp only [Rd.and]
  rw [qTake_ne (by rw [h1]; exact h2)]
  exact ⟨h1, h2, h3⟩
 ·rw [hr] at ht
  obtain ⟨h1, h2, h3, h4⟩ := ht
  simp only [Rd.and]
  rw [h1]
  have ht2 := tog_take (n := n.toNat) h2 h3
  rw [h4] at ht2
  rcases hr2 : rTake n.toNat r with c | ⟨b, r'⟩
  ·rw [hr2] at ht2; exact ht2
  ·rw [hr2] at ht2
   exact ⟨by simp only; rw [ht2.1], ht2.2⟩
theorem tog_termK {B : List Int} {no nu va : Bool} {k lo : Int} {s : Qs} (h : s.er = 0) (hs : s.at_ <= B.length) (hk : k = 0 ∨ k = 1 ∨ k = 2 ∨ k = 3) (hn : ¬ ((k = 0 /\ no = false) ∨ (k = 1 /\ nu = false) ∨ (k = 3 /\ va = false))) (hlo : lo = if no = true then 1 else 0) :
  Tog B (rTermOf k lo (B.drop s.at_)) (qTermK B no nu va k s) := by
 unfold rTermOf qTermK
 rw [if_neg (show ¬ s.er ≠ 0 by rw [h]; simp), if_neg hn]
 rcases hk with rfl | rfl | rfl | rfl
 ·simp only [show ¬ (0 : Int) = 1 by omega, show ¬ (0 : Int) = 2 by omega, show ¬ (0 : Int) = 3 by omega, if_false]
  exact ⟨rfl, h, hs, rfl⟩
 ·simp only [if_true]
  have ht := tog_num (k := 8) h hs
  rcases hr : rNum 8 (B.drop s.at_) with c | ⟨n, r⟩
  ·rw [hr] at ht; exact ht
  ·rw [hr] at ht; exact ⟨by simp only; rw [ht.1], ht.2⟩
 ·simp only [show ¬ (2 : Int) = 1 by omega, if_false, if_true]
  have ht := tog_bytes (lo := lo) (hi := 64) h hs
  have e : (if no = true then qText B 1 s else qText B 0 s) = qText B lo s := by rw [hlo]; cases no <;> rfl
  rw [e]
  unfold qText
  rcases hr : rText lo 64 (B.drop s.at_) with c | ⟨n, r⟩
  ·rw [hr] at ht; exact ht
  ·rw [hr] at ht; exact ⟨by simp only; rw [<- ht.1], ht.2⟩
 ·simp only [show ¬ (3 : Int) = 1 by omega, show ¬ (3 : Int) = 2 by omega, if_false, if_true]
  have ht := tog_nat h hs
  rcases hr : rNat (B.drop s.at_) with c | ⟨n, r⟩
  ·rw [hr] at ht; exact ht
  ·rw [hr] at ht; exact ⟨by simp only; rw [ht.1], ht.2⟩
theorem qTermK_ne {B : List Int} {no nu va : Bool} {k : Int} {s : Qs} (h : s.er ≠ 0) : qTermK B no nu va k s = (zt, s) := if_pos h
theorem num1_rng {B : List Int} (hy : byt B) {s : Qs} {n : Int} {r : List Int} (hr : rNum 1 (B.drop s.at_) = .ok (n, r)) : 0 <= n := by
 unfold rNum rTake at hr
 split at hr
 ·cases hr
 ·cases hr
  exact (val_rng (fun x hx => hy x (List.mem_of_mem_drop (List.mem_of_mem_take hx)))).1
theorem tog_kind {B : List Int} (hy : byt B) {no nu va : Bool} {cs : List Int} {lo : Int} {s : Qs} (h : s.er = 0) (hs : s.at_ <= B.length) (hlo : lo = if no = true then 1 else 0)
  (hcs : ∀ k : Int, k ∈ cs ↔ (k = 0 ∨ k = 1 ∨ k = 2 ∨ k = 3) /\ ¬ ((k = 0 /\ no = false) ∨ (k = 1 /\ nu = false) ∨ (k = 3 /\ va = false))) :
  Tog B ((rOne cs (B.drop s.at_)).and fun k r => rTermOf k lo r) (qTerm B no nu va s) := by
 have ht := tog_num (k := 1) h hs
 unfold rOne qTerm qSmall
 rcases hr : rNum 1 (B.drop s.at_) with c | ⟨n, r⟩
 ·rw [hr] at ht
  obtain ⟨h1, h2, h3⟩ := ht
  simp only [Rd.and]
  split
  ·rw [stp_ne (by rw [h1]; exact h2), qTermK_ne (by simp only; rw [h1]; exact h2)]; exact ⟨h1, h2, h3⟩
  ·rw [qTermK_ne (by rw [h1]; exact h2)]; exact ⟨h1, h2, h3⟩
 ·rw [hr] at ht
  have h0 := num1_rng hy hr
  obtain ⟨h1, h2, h3, h4⟩ := ht
  simp only [Rd.and]
  rw [h1]
  by_cases hm : n ∈ cs
  ·obtain ⟨hk, hn⟩ := (hcs n).1 hm
   rw [if_pos hm, if_neg (by omega)]
   simp only
   rw [h1, <- h4]
   exact tog_termK h2 h3 hk hn hlo
  ·rw [if_neg hm]
   by_cases h3' : n < 0 ∨ 3 < n
   ·rw [if_pos h3', stp_0 h2, qTermK_ne (by simp)]
    exact ⟨rfl, by omega, h3⟩
   ·rw [if_neg h3']
    have hn : (n = 0 /\ no = false) ∨ (n = 1 /\ nu = false) ∨ (n = 3 /\ va = false) := by
     by_cases hq : (n = 0 /\ no = false) ∨ (n = 1 /\ nu = false) ∨ (n = 3 /\ va = false)
     ·exact hq
     ·exact absurd ((hcs n).2 ⟨by omega, hq⟩) hm
    rw [h1]
    unfold qTermK
    rw [if_neg (by rw [h2]; simp), if_pos hn, stp_0 h2]
    exact ⟨rfl, by omega, h3⟩
theorem tog_qual {B : List Int} (hy : byt B) {s : Qs} (h : s.er = 0) (hs : s.at_ <= B.length) : Tog B (rQual (B.drop s.at_)) (qTerm B true false true s) :=
 tog_kind hy h hs rfl (fun k => by simp only [List.mem_cons, List.not_mem_nil, or_false, reduceCtorEq, and_false, and_true, false_or]; omega)
theorem tog_arg {B : List Int} (hy : byt B) {s : Qs} (h : s.er = 0) (hs : s.at_ <= B.length) : Tog B (rArg (B.drop s.at_)) (qTerm B false true true s) :=
 tog_kind hy h hs rfl (fun k => by simp only [List.mem_cons, List.not_mem_nil, or_false, reduceCtorEq, and_false, and_true]; omega)
theorem tog_args {B : List Int} (hy : byt B) : ∀ (k : Nat) (s : Qs), s.er = 0 -> s.at_ <= B.length -> Tog B (rMany rArg k (B.drop s.at_)) (qArgs B k s)
 | 0, s, h, hs => ⟨rfl, h, hs, rfl⟩
 | k + 1, s, h, hs => by
  have ht := tog_arg hy h hs
  unfold rMany qArgs
  rw [if_neg (show ¬ s.er ≠ 0 by rw [h]; simp)]
  rcases hr : rArg (B.drop s.at_) with c | ⟨t, r⟩
  ·rw [hr] at ht
   obtain ⟨h1, h2, h3⟩ := ht
   simp only [Rd.and]
   rw [qArgs_ne (by rw [h1]; exact h2)]
   exact ⟨h1, h2, h3⟩
  ·rw [hr] at ht
   obtain ⟨h1, h2, h3, h4⟩ := ht
   simp only [Rd.and]
   have ht2 := tog_args hy k _ h2 h3
   rw [h4] at ht2
   rcases hr2 : rMany rArg k r with c | ⟨ts, r'⟩
   ·rw [hr2] at ht2; exact ht2
   ·rw [hr2] at ht2; exact ⟨by simp only; rw [h1, ht2.1], ht2.2⟩
theorem tog_atom {B : List Int} (hy : byt B) {s : Qs} (h : s.er = 0) (hs : s.at_ <= B.length) : Tog B (rAtom (B.drop s.at_)) (qAtom B s) := by
 have ht := tog_qual hy h hs
 unfold rAtom qAtom
 rcases hr : rQual (B.drop s.at_) with c | ⟨t, r⟩
 ·rw [hr] at ht
  obtain ⟨h1, h2, h3⟩ := ht
  have hne : (qTerm B true false true s).2.er ≠ 0 := by rw [h1]; exact h2
  simp only [Rd.and]
  unfold qName
  rw [qSmall_ne hne]
  simp only
  rw [qTake_ne hne]
  unfold qNm
  simp only
  rw [if_neg (fun x => hne x.1)]
  unfold qAtomN
  rw [qSmall_ne hne]
  simp only
  rw [qArgs_ne hne]
  exact ⟨h1, h2, h3⟩
 ·rw [hr] at ht
  obtain ⟨h1, h2, h3, h4⟩ := ht
  simp only [Rd.and]
  rw [h1]
  generalize (qTerm B true false true s).2 = s1 at *
  have htn := tog_bytes (lo := 1) (hi := 32) h2 h3
  rw [h4] at htn
  unfold rName qName
  rcases hr2 : rText 1 32 r with c | ⟨nm, r2⟩
  ·rw [hr2] at htn
   obtain ⟨g1, g2, g3⟩ := htn
   simp only [Rd.and] at g1 g3 ⊢
   generalize (qTake B (qSmall B 1 32 s1).1.toNat (qSmall B 1 32 s1).2) = z at *
   have hne : z.2.er ≠ 0 := by rw [g1]; exact g2
   unfold qNm
   rw [if_neg (fun x => hne x.1)]
   unfold qAtomN
   rw [qSmall_ne hne]
   simp only
   rw [qArgs_ne hne]
   exact ⟨g1, g2, g3⟩
  ·rw [hr2] at htn
   obtain ⟨g1, g2, g3, g4⟩ := htn
   simp only [Rd.and] at g1 g2 g3 g4 ⊢
   generalize (qTake B (qSmall B 1 32 s1).1.toNat (qSmall B 1 32 s1).2) = z at *
   rw [g1]
   cases hnm : nameOk nm
   ·simp only [Bool.false_eq_true, if_false]
    unfold qNm
    rw [if_pos ⟨g2, hnm⟩]
    unfold qAtomN
    rw [qSmall_ne (by simp)]
    simp only
    rw [qArgs_ne (by simp)]
    exact ⟨rfl, by omega, g3⟩
   ·simp only [if_true]
    unfold qNm
    rw [if_neg (by rw [hnm]; simp)]
    have hts := tog_small (lo := 0) (hi := 8) g2 g3
    rw [g4] at hts
    unfold qAtomN
    rcases hr3 : rBnd 0 8 r2 with c | ⟨n, r3⟩
    ·rw [hr3] at hts
     obtain ⟨k1, k2, k3⟩ := hts
     simp only
     rw [qArgs_ne (by rw [k1]; exact k2)]
     exact ⟨k1, k2, k3⟩
    ·rw [hr3] at hts
     obtain ⟨k1, k2, k3, k4⟩ := hts
     simp only
     rw [k1]
     have hta := tog_args hy n.toNat _ k2 k3
     rw [k4] at hta
     rcases hr4 : rMany rArg n.toNat r3 with c | ⟨ts, r4⟩
     ·rw [hr4] at hta; exact hta
     ·rw [hr4] at hta; exact ⟨by simp only; rw [hta.1], hta.2⟩
end Go.Proofs.YtmbmchbninlhpaaGreatDoor
