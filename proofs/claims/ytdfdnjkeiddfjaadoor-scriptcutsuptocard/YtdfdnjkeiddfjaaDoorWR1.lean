import Derived.Test.YtdfdnjkeiddfjaaDoorKR14
import Derived.Lib.ConvBytes
import Derived.Test.YtdfdnjkeiddfjaaDoorRA0
/-
  ref's Spell.
-/
namespace Go.Proofs.YtdfdnjkeiddfjaaDoor
open Go.RowKit

end Go.Proofs.YtdfdnjkeiddfjaaDoor
/-
  ref's Join.
-/
namespace Go.Proofs.YtdfdnjkeiddfjaaDoor
open Go.RowKit

theorem below_conv (W : World) (s : ByteArray) : Below W.heap.size W (Lib.bytesWorld W 5 s) := ⟨rfl, rfl, rfl, by rw [Lib.bytesWorld_size]; omega, fun k hk => Lib.bytesWorld_at_old W _ s k hk⟩
theorem conv_str (W : World) (s : ByteArray) : (convert 9 22 (.string s)).run Tryd.prog W = .ok (.slice (some ⟨W.heap.size, 0, none⟩) s.size (grownCap W s.size 0 5)) (Lib.bytesWorld W 5 s) :=
  Lib.run_convert_string_bytes W 9 22 5 s Tryd.underlying9 Tryd.underlying22 Tryd.underlying5
theorem app_conv {ops : Array Oper} {rest : List Oper} {o : Oper} {a : Act} {Q : Exit → Act → World → Prop} {W : World} (hgd : o.guard = none) (sl x : Operand)
    (ho : o.op = .call { callee := .builtin .append, args := #[sl, x], argTypes := #[22, 22] }) (base : Nat) (v : Value) (l : List Int) (s : ByteArray) (hs : a.eval sl = v) (hown : OwnB W base v l)
    (hx : a.eval x = .slice (some ⟨W.heap.size, 0, none⟩) s.size (grownCap W s.size 0 5)) (hlen : l.length + s.size ≤ 100000000) (hbase : base ≤ W.heap.size) (hpos : 0 < s.size)
    (h : ∀ v' w', OwnB w' base v' (l ++ blK s) → Below base W w' → (l ++ blK s = [] → v' = .slice none 0 0) → wpList Tryd.prog ops Q rest (a.put o.dst v') w') : wpList Tryd.prog ops Q (o :: rest) a (Lib.bytesWorld W 5 s) := by
  obtain ⟨i, z, hi, hz0, hz1, hz2, hz3⟩ := infoU8_parts
  have hc := below_conv W s
  have hown2 := hown.later hc
  refine wpList_append_own _ hgd sl x 22 ho base 5 i z 1 1 Tryd.underlying22 hi hz0 hz1 hz2 hz3 (by omega) v l.length (ibs l) hs hown2 ⟨W.heap.size, 0, none⟩ s.size _ (ibs (blK s)) hx (by rw [ibs_len, bl_len, Nat.mul_one]) ?_ (fun u hu => by simp only [ibs, List.mem_map] at hu; obtain ⟨_, -, rfl⟩ := hu; rfl) (by unfold maxLen; omega) (by omega) (Nat.le_trans hbase hc.size) ?_
  · intro j u hj
    have hlt : j < s.size := by have := (List.getElem?_eq_some_iff.1 hj).1; rwa [ibs_len, bl_len] at this
    have e : (⟨W.heap.size, 0, none⟩ : Addr).add j = ⟨W.heap.size, j, none⟩ := by rw [Addr.add_mid, Nat.zero_add]
    rw [e, Lib.bytesWorld_cell W _ s j hlt, ← hj]
    simp [ibs, blK, List.getD, hlt]
  · intro v' w' h1 h2 h3
    refine h v' w' ?_ ((hc.mono hbase).trans (grown_below h2 (fun k hk => (World.ownsRow.lt hown2 k hk).1) (Nat.le_trans hbase hc.size))) (fun e => ?_)
    · unfold OwnB
      rw [List.length_append, bl_len, show ibs (l ++ blK s) = ibs l ++ ibs (blK s) by simp [ibs]]
      exact h1
    · rw [List.append_eq_nil_iff] at e
      have := congrArg List.length e.2
      rw [bl_len, List.length_nil] at this; omega
end Go.Proofs.YtdfdnjkeiddfjaaDoor
/-
  wire: what the document says (plain).
-/
namespace Go.Proofs.YtdfdnjkeiddfjaaDoor
open Go.RowKit

structure MsW where
  n : Nat
  b : List Int
/-- A wire: its row, and how many numbers were given. -/
structure WrW where
  row : List MsW
  gv : Nat
def bytW (l : List Int) : Prop := ∀ x ∈ l, 0 ≤ x ∧ x ≤ 255
structure WrW.Ok (s : WrW) : Prop where
  g : s.gv ≤ 4096
  r : s.row.length ≤ s.gv
  d : (s.row.map MsW.n).Nodup
  n : ∀ m ∈ s.row, 1 ≤ m.n ∧ m.n ≤ s.gv
  l : ∀ m ∈ s.row, m.b.length ≤ 1048576
  b : ∀ m ∈ s.row, bytW m.b
def plW (s : WrW) (n : Int) : Option Nat := s.row.findIdx? fun m => decide ((m.n : Int) = n)
theorem plW_some {s : WrW} {n : Int} {i : Nat} (h : plW s n = some i) : ∃ m, s.row[i]? = some m ∧ (m.n : Int) = n ∧ i < s.row.length := by
  unfold plW at h
  obtain ⟨hi, h1, -⟩ := List.findIdx?_eq_some_iff_getElem.1 h
  exact ⟨_, List.getElem?_eq_getElem hi, by simpa using h1, hi⟩
theorem plW_none {s : WrW} {n : Int} (h : plW s n = none) : ∀ m ∈ s.row, (m.n : Int) ≠ n := by
  unfold plW at h
  rw [List.findIdx?_eq_none_iff] at h
  intro r hr
  simpa using h r hr
theorem num_one {s : WrW} (h : s.Ok) {i j : Nat} {x y : MsW} (hx : s.row[i]? = some x) (hy : s.row[j]? = some y) (e : x.n = y.n) : i = j := by
  have hi := (List.getElem?_eq_some_iff.1 hx).1
  have h1 : (s.row.map MsW.n)[i]? = some x.n := by rw [List.getElem?_map, hx]; rfl
  have h2 : (s.row.map MsW.n)[j]? = some x.n := by rw [List.getElem?_map, hy, e]; rfl
  exact (List.getElem?_inj (by rw [List.length_map]; exact hi) h.d).1 (h1.trans h2.symm)
theorem plW_at {s : WrW} (h : s.Ok) {i : Nat} {m : MsW} (hm : s.row[i]? = some m) : plW s m.n = some i := by
  cases hp : plW s m.n with
  | none => exact absurd rfl (plW_none hp m (List.mem_of_getElem? hm))
  | some j =>
    obtain ⟨x, hx, hn, -⟩ := plW_some hp
    rw [num_one h hx hm (by omega)]
def putW (s : WrW) (b : List Int) : WrW := ⟨s.row ++ [⟨s.gv + 1, b⟩], s.gv + 1⟩
def sndE (s : WrW) (b : List Int) : Int := if 1048576 < b.length then 233 else if 4096 ≤ s.gv then 234 else 0
def sndN (s : WrW) (b : List Int) : Int := if sndE s b = 0 then ((s.gv + 1 : Nat) : Int) else 0
def sndS (s : WrW) (b : List Int) : WrW := if sndE s b = 0 then putW s b else s
def byW (s : WrW) (n : Int) : List Int := match plW s n with
  | none => []
  | some i => ((s.row[i]?).map MsW.b).getD []
def lokE (s : WrW) (n : Int) : Int := match plW s n with
  | none => 231
  | some _ => 0
def takS (s : WrW) (n : Int) : WrW := match plW s n with
  | none => s
  | some i => ⟨s.row.eraseIdx i, s.gv⟩
def cpyE (s : WrW) (n : Int) : Int := match plW s n with
  | none => 231
  | some _ => if 4096 ≤ s.gv then 234 else 0
def cpyN (s : WrW) (n : Int) : Int := if cpyE s n = 0 then ((s.gv + 1 : Nat) : Int) else 0
def cpyS (s : WrW) (n : Int) : WrW := if cpyE s n = 0 then putW s (byW s n) else s
def swpE (s : WrW) (n m : Int) : Int := match plW s n, plW s m with
  | some _, some _ => 0
  | _, _ => 231
def swpR (l : List MsW) (i j : Nat) : List MsW := match l[i]?, l[j]? with
  | some x, some y => (l.set i y).set j x
  | _, _ => l
def swpS (s : WrW) (n m : Int) : WrW := match plW s n, plW s m with
  | some i, some j => ⟨swpR s.row i j, s.gv⟩
  | _, _ => s
/-- The message gets other bytes. -/
def newB (s : WrW) (n : Int) (b : List Int) : WrW := match plW s n with
  | none => s
  | some i => ⟨s.row.set i ⟨n.toNat, b⟩, s.gv⟩
def xrB (x k : Int) : Int := bits .xor .u8 x (k % 256)
def flpE (s : WrW) (n at_ : Int) : Int := match plW s n with
  | none => 231
  | some _ => if at_ < 0 ∨ ((byW s n).length : Int) ≤ at_ then 232 else 0
def flpL (b : List Int) (at_ k : Int) : List Int := b.set at_.toNat (xrB (b.getD at_.toNat 0) k)
def flpS (s : WrW) (n at_ k : Int) : WrW := if flpE s n at_ = 0 then newB s n (flpL (byW s n) at_ k) else s
def cutE (s : WrW) (n l : Int) : Int := match plW s n with
  | none => 231
  | some _ => if l < 0 ∨ ((byW s n).length : Int) < l then 232 else 0
def cutS (s : WrW) (n l : Int) : WrW := if cutE s n l = 0 then newB s n ((byW s n).take l.toNat) else s
def nxtW (s : WrW) : Int := match s.row with
  | [] => 0
  | m :: _ => (m.n : Int)
theorem byW_at {s : WrW} {n : Int} {i : Nat} {m : MsW} (h : plW s n = some i) (hm : s.row[i]? = some m) : byW s n = m.b := by unfold byW; rw [h]; simp only; rw [hm]; rfl
theorem byW_len {s : WrW} (h : s.Ok) (n : Int) : (byW s n).length ≤ 1048576 := by
  cases hp : plW s n with
  | none => unfold byW; rw [hp]; simp
  | some i =>
    obtain ⟨m, hm, -⟩ := plW_some hp
    rw [byW_at hp hm]
    exact h.l m (List.mem_of_getElem? hm)
theorem byW_byt {s : WrW} (h : s.Ok) (n : Int) : bytW (byW s n) := by
  cases hp : plW s n with
  | none => unfold byW; rw [hp]; intro x hx; simp at hx
  | some i =>
    obtain ⟨m, hm, -⟩ := plW_some hp
    rw [byW_at hp hm]
    exact h.b m (List.mem_of_getElem? hm)
theorem xr_all : ∀ x : Nat, x < 256 → ∀ k : Nat, k < 256 → bits .xor .u8 (x : Int) (k : Int) = ((x ^^^ k : Nat) : Int) := by
  intro x hx k hk
  have h3 : x ^^^ k < 2 ^ 8 := Nat.xor_lt_two_pow (by omega) (by omega)
  simp [bits]
  rw [show IntKind.u8.bits = 8 from rfl, Nat.mod_eq_of_lt (show x < 2 ^ 8 from hx), Nat.mod_eq_of_lt (show k < 2 ^ 8 from hk)]
  have h4 : (((x ^^^ k : Nat) : Int)) % 256 = ((x ^^^ k : Nat) : Int) := Int.emod_eq_of_lt (by omega) (by omega)
  simpa [IntKind.wrap, IntKind.bits, IntKind.signed] using h4
theorem putW_ok {s : WrW} (h : s.Ok) (hg : s.gv < 4096) {b : List Int} (hb : bytW b) (hl : b.length ≤ 1048576) : (putW s b).Ok := by
  refine ⟨by unfold putW; simp only; omega, by unfold putW; simp only [List.length_append, List.length_singleton]; have := h.r; omega, ?_, ?_, ?_, ?_⟩
  · unfold putW
    simp only [List.map_append, List.map_cons, List.map_nil]
    rw [List.nodup_append]
    refine ⟨h.d, by simp, fun a ha c hc e => ?_⟩
    rw [List.mem_singleton] at hc
    obtain ⟨m, hm, rfl⟩ := List.mem_map.1 ha
    have := (h.n m hm).2
    omega
  · intro m hm
    unfold putW at hm ⊢
    simp only at hm ⊢
    rcases List.mem_append.1 hm with hm | hm
    · have := h.n m hm; omega
    · rw [List.mem_singleton] at hm; subst hm; simp
  · intro m hm
    rcases List.mem_append.1 hm with hm | hm
    · exact h.l m hm
    · rw [List.mem_singleton] at hm; subst hm; exact hl
  · intro m hm
    rcases List.mem_append.1 hm with hm | hm
    · exact h.b m hm
    · rw [List.mem_singleton] at hm; subst hm; exact hb
theorem takS_ok {s : WrW} (h : s.Ok) (n : Int) : (takS s n).Ok := by
  unfold takS
  cases hp : plW s n with
  | none => exact h
  | some i =>
    simp only
    refine ⟨h.g, ?_, ?_, fun m hm => h.n m (List.mem_of_mem_eraseIdx hm), fun m hm => h.l m (List.mem_of_mem_eraseIdx hm), fun m hm => h.b m (List.mem_of_mem_eraseIdx hm)⟩
    · have := List.length_eraseIdx_le s.row i; have := h.r; simp only; omega
    · exact ((List.eraseIdx_sublist s.row i).map MsW.n).nodup h.d
theorem set_ok {s : WrW} (h : s.Ok) {i : Nat} {m : MsW} (hm : s.row[i]? = some m) {b : List Int} (hb : bytW b) (hl : b.length ≤ 1048576) : (WrW.mk (s.row.set i ⟨m.n, b⟩) s.gv).Ok := by
  have e : (s.row.set i ⟨m.n, b⟩).map MsW.n = s.row.map MsW.n := by
    rw [List.map_set]
    refine List.ext_getElem? fun j => ?_
    rw [List.getElem?_set]
    split
    · rename_i e; subst e
      rw [List.getElem?_map, hm]
      split
      · rfl
      · rename_i hlt; rw [List.length_map] at hlt; exact absurd (List.getElem?_eq_some_iff.1 hm).1 hlt
    · rfl
  refine ⟨h.g, by simp only [List.length_set]; exact h.r, by simp only; rw [e]; exact h.d, fun x hx => ?_, fun x hx => ?_, fun x hx => ?_⟩
  · rcases List.mem_or_eq_of_mem_set hx with hx | rfl
    · exact h.n x hx
    · exact h.n m (List.mem_of_getElem? hm)
  · rcases List.mem_or_eq_of_mem_set hx with hx | rfl
    · exact h.l x hx
    · exact hl
  · rcases List.mem_or_eq_of_mem_set hx with hx | rfl
    · exact h.b x hx
    · exact hb
theorem newB_ok {s : WrW} (h : s.Ok) (n : Int) {b : List Int} (hb : bytW b) (hl : b.length ≤ 1048576) : (newB s n b).Ok := by
  unfold newB
  cases hp : plW s n with
  | none => exact h
  | some i =>
    obtain ⟨m, hm, hn, -⟩ := plW_some hp
    simp only
    rw [show n.toNat = m.n by omega]
    exact set_ok h hm hb hl
theorem swpR_at {l : List MsW} {i j : Nat} {x y : MsW} (hx : l[i]? = some x) (hy : l[j]? = some y) : swpR l i j = (l.set i y).set j x := by unfold swpR; rw [hx, hy]
theorem swpR_len (l : List MsW) (i j : Nat) : (swpR l i j).length = l.length := by
  unfold swpR; split
  · simp
  · rfl
/-- What stands where behind a swap. -/
theorem swpR_get {l : List MsW} {i j : Nat} {x y : MsW} (hx : l[i]? = some x) (hy : l[j]? = some y) (k : Nat) : (swpR l i j)[k]? = if k = j then some x else if k = i then some y else l[k]? := by
  rw [swpR_at hx hy]
  have hi := (List.getElem?_eq_some_iff.1 hx).1
  have hj := (List.getElem?_eq_some_iff.1 hy).1
  by_cases h1 : k = j
  · subst h1
    rw [if_pos rfl, List.getElem?_set_self (by rw [List.length_set]; exact hj)]
  · rw [if_neg h1, List.getElem?_set_ne (by omega)]
    by_cases h2 : k = i
    · subst h2
      rw [if_pos rfl, List.getElem?_set_self hi]
    · rw [if_neg h2, List.getElem?_set_ne (by omega)]
theorem swpR_mem {l : List MsW} {i j : Nat} {m : MsW} (h : m ∈ swpR l i j) : m ∈ l := by
  unfold swpR at h
  split at h
  · rename_i x y hx hy
    rcases List.mem_or_eq_of_mem_set h with h | rfl
    · rcases List.mem_or_eq_of_mem_set h with h | rfl
      · exact h
      · exact List.mem_of_getElem? hy
    · exact List.mem_of_getElem? hx
  · exact h
theorem nodup_get {l : List Nat} (h : ∀ (i j : Nat) (a : Nat), l[i]? = some a → l[j]? = some a → i = j) : l.Nodup := by
  rw [List.Nodup, List.pairwise_iff_getElem]
  intro i j hi hj hij e
  have := h i j l[i] (List.getElem?_eq_getElem hi) (by rw [e]; exact List.getElem?_eq_getElem hj)
  omega
def piW (i j k : Nat) : Nat := if k = j then i else if k = i then j else k
theorem swpR_pi {l : List MsW} {i j : Nat} {x y : MsW} (hx : l[i]? = some x) (hy : l[j]? = some y) (k : Nat) : (swpR l i j)[k]? = l[piW i j k]? := by
  rw [swpR_get hx hy, piW]
  split
  · exact hx.symm
  · split
    · exact hy.symm
    · rfl
theorem piW_inj {i j a b : Nat} (h : piW i j a = piW i j b) : a = b := by
  unfold piW at h
  repeat' split at h
  all_goals omega
theorem swpS_ok {s : WrW} (h : s.Ok) (n m : Int) : (swpS s n m).Ok := by
  unfold swpS
  cases hp : plW s n with
  | none => exact h
  | some i =>
    cases hq : plW s m with
    | none => exact h
    | some j =>
      obtain ⟨x, hx, -⟩ := plW_some hp
      obtain ⟨y, hy, -⟩ := plW_some hq
      simp only
      refine ⟨h.g, by simp only [swpR_len]; exact h.r, nodup_get fun a b c ha hb => ?_, fun z hz => h.n z (swpR_mem hz), fun z hz => h.l z (swpR_mem hz), fun z hz => h.b z (swpR_mem hz)⟩
      rw [List.getElem?_map, Option.map_eq_some_iff] at ha hb
      obtain ⟨u, hu, rfl⟩ := ha
      obtain ⟨v, hv, e⟩ := hb
      rw [swpR_pi hx hy] at hu hv
      have := num_one h hu hv e.symm
      exact piW_inj this
end Go.Proofs.YtdfdnjkeiddfjaaDoor
