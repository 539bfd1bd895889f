/-
  Bytes that a call lays, in the codec's seat; texts' bytes.
-/
import Derived.Test.YtjnipcakjoiplaaDoorMD8
import Derived.Test.YtjnipcakjoiplaaDoorCL27
import Derived.Deep.RegionHeld3
import Derived.BigQuiet
import Derived.Laws.OwnMore
import Derived.Deep.CutRange
import Derived.Deep.DrawnRows
import Derived.WalkMore
import Derived.WalkSmall
import Derived.Deep.AppendLies
import Derived.Laws.IdiomStrings
import Derived.Lib.AppendStr
import Derived.Laws.BytesArg
namespace Go.Proofs.YtjnipcakjoiplaaDoor
open Go.RowKit

def ibs (l : List Int) : List Value := l.map (Value.int .u8)
/-- A list of bytes of the call's own. -/
def OwnB (w : World) (base : Nat) (v : Value) (l : List Int) : Prop := w.ownsRow base 5 1 v l.length (ibs l)
theorem OwnB.later {w w' : World} {base : Nat} {v : Value} {l : List Int} (h : OwnB w base v l) (hb : Below w.heap.size w w') : OwnB w' base v l := by
  refine ⟨h.1, ?_⟩
  rcases h.2 with hn | ⟨g, cap, cur, hv, hbb, hg, rest⟩
  · exact Or.inl hn
  · exact Or.inr ⟨g, cap, cur, hv, hbb, (hb.block g (Array.getElem?_eq_some_iff.1 hg).1).trans hg, rest⟩
theorem ownB_nil (w : World) (base : Nat) : OwnB w base (.slice none 0 0) [] := World.ownsRow_nil _ _ _ _
theorem OwnB.mono {w : World} {base B : Nat} {v : Value} {l : List Int} (h : OwnB w base v l) (hb : B ≤ base) : OwnB w B v l := by
  refine ⟨h.1, ?_⟩
  rcases h.2 with hn | ⟨g, cap, cur, hv, hbb, rest⟩
  · exact Or.inl hn
  · exact Or.inr ⟨g, cap, cur, hv, Nat.le_trans hb hbb, rest⟩
theorem OwnB.lit (w : World) (l : List Int) (hl : l.length ≤ 100000000) : OwnB (w.alloc (.cells (ibs l).toArray 5)) w.heap.size (.slice (some ⟨w.heap.size, 0, none⟩) l.length l.length) l :=
  World.ownsRow_lit w (ibs l).toArray l.length (Nat.le_refl _) (by unfold maxLen; omega) (by simp [ibs])
theorem Tryd.infoU8 : (Tryd.prog.info? 5).map (fun i => (i.size, i.bytes, i.zero.map (·.cells.size))) = some (1, 1, some 1) := by kernel_rfl
theorem infoU8_parts : ∃ (i : TypeInfo) (z : Value), Tryd.prog.info? 5 = some i ∧ i.zero = some z ∧ i.size = 1 ∧ i.bytes = 1 ∧ z.cells.size = 1 := by
  have h := Tryd.infoU8
  cases hi : Tryd.prog.info? 5 with
  | none => rw [hi] at h; simp at h
  | some i =>
    rw [hi] at h
    simp only [Option.map_some, Option.some.injEq, Prod.mk.injEq] at h
    obtain ⟨h1, h2, h3⟩ := h
    cases hz : i.zero with
    | none => rw [hz] at h3; simp at h3
    | some z => rw [hz] at h3; simp only [Option.map_some, Option.some.injEq] at h3; exact ⟨i, z, rfl, hz, h1, h2, h3⟩
theorem grown_below {w w' : World} {base : Nat} {v : Value} (hg : w.grownBy w' v.ownBlock) (h : ∀ k, v.ownBlock = some k → base ≤ k) (hb : base ≤ w.heap.size) : Below base w w' :=
  ⟨hg.os, hg.tape, hg.output, hg.size, fun k hk => hg.block k (by omega) (fun e => by have := h k e.symm; omega)⟩
/-- Bytes that lie in memory. -/
def Bn (w : World) (v : Value) (l : List Int) : Prop := ∃ a cap, v = .slice a l.length cap ∧ l.length ≤ cap ∧ l.length < 1000000000000000000 ∧ (l = [] ∨ ∃ b o, a = some ⟨b, o, none⟩ ∧ b < w.heap.size ∧ ∀ (i : Nat) (x : Int), l[i]? = some x → w.cell? ⟨b, o + i, none⟩ = some (.int .u8 x))
theorem Bn.later {w w' : World} {v : Value} {l : List Int} (h : Bn w v l) (hb : Below w.heap.size w w') : Bn w' v l := by
  obtain ⟨a, cap, rfl, h0, h1, h⟩ := h
  refine ⟨a, cap, rfl, h0, h1, h.imp id ?_⟩
  rintro ⟨b, o, rfl, hlt, hc⟩
  exact ⟨b, o, rfl, Nat.lt_of_lt_of_le hlt hb.size, fun i x hx => cell_step hb hlt (hc i x hx)⟩
theorem OwnB.bn {w : World} {base : Nat} {v : Value} {l : List Int} (h : OwnB w base v l) (hl : l.length < 1000000000000000000) : Bn w v l := by
  rcases h.2 with ⟨hv, hn⟩ | ⟨g, cap, cur, hv, -, hg, hn, -, -, -⟩
  · have : l = [] := List.eq_nil_of_length_eq_zero hn
    subst this
    exact ⟨none, 0, hv, Nat.le_refl _, hl, Or.inl rfl⟩
  · refine ⟨some ⟨g, 0, none⟩, cap, hv, hn, hl, Or.inr ⟨g, 0, rfl, (Array.getElem?_eq_some_iff.1 hg).1, fun i x hx => ?_⟩⟩
    have := World.ownsRow.cells h (g := g) (by rw [hv]; rfl) i (.int .u8 x) (by simp [ibs, hx])
    rw [Addr.add_mid] at this
    exact this
/-- Bytes as a text. -/
def i2b (l : List Int) : List UInt8 := l.map fun x => UInt8.ofNat x.toNat
def byt (l : List Int) : Prop := ∀ x ∈ l, 0 ≤ x ∧ x ≤ 255
/-- A text's bytes. -/
def bl (s : ByteArray) : List Int := s.data.toList.map fun b => (b.toNat : Int)
/-- The text of bytes. -/
def ofL (l : List Int) : ByteArray := ⟨(i2b l).toArray⟩
theorem bl_len (s : ByteArray) : (bl s).length = s.size := by simp [bl]
theorem bl_byt (s : ByteArray) : byt (bl s) := fun x hx => by
  simp only [bl, List.mem_map] at hx
  obtain ⟨b, -, rfl⟩ := hx
  have := b.toNat_lt; omega
theorem byt.app {l m : List Int} (h : byt l) (k : byt m) : byt (l ++ m) := fun x hx => (List.mem_append.1 hx).elim (h x) (k x)
/-- Bytes that lie in memory as a text. -/
theorem conv_bn {w : World} {v : Value} {l : List Int} (h : Bn w v l) (hb : byt l) : (convert 27 9 v).run Tryd.prog w = .ok (.string (ofL l)) w := by
  obtain ⟨a, cap, rfl, h0, h1, h⟩ := h
  rcases h with rfl | ⟨b, o, rfl, hlt, hc⟩
  · cases a with
    | none => exact run_convert_bytes_nil w 27 5 Tryd.underlying27 Tryd.underlying5 0 cap 9 Tryd.underlying9
    | some p => exact run_convert_bytes_back (P := Tryd.prog) w 27 9 5 p cap [] Tryd.underlying27 Tryd.underlying5 Tryd.underlying9 (fun j hj => by simp at hj)
  · have e := run_convert_bytes_back (P := Tryd.prog) w 27 9 5 ⟨b, o, none⟩ cap (i2b l) Tryd.underlying27 Tryd.underlying5 Tryd.underlying9 (fun j hj => by
      have hj' : j < l.length := by simpa [i2b] using hj
      have := hb l[j] (List.getElem_mem hj')
      rw [Addr.add_mid, hc j l[j] (by simp [hj'])]
      simp [i2b]; omega)
    rw [show (i2b l).length = l.length by simp [i2b]] at e
    exact e
theorem Tryd.zeroU8 : ∃ i, Tryd.prog.info? 5 = some i ∧ i.zero = some (.int .u8 0) ∧ i.size = 1 ∧ i.bytes = 1 := by
  obtain ⟨i, z, hi, hz0, hz1, hz2, hz3⟩ := infoU8_parts
  have h : (Tryd.prog.info? 5).bind (·.zero) = some (.int .u8 0) := by kernel_rfl
  rw [hi] at h
  exact ⟨i, hi, h, hz1, hz2⟩
theorem ibs_bl (s : ByteArray) : ibs (bl s) = Lib.strCells s := by simp [ibs, bl, Lib.strCells]
end Go.Proofs.YtjnipcakjoiplaaDoor
