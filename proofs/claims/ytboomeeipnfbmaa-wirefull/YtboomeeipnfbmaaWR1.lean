/-
  wire: what the document says (plain).
-/
import Derived.Test.YtboomeeipnfbmaaRA0
namespace Go.Proofs.Ytboomeeipnfbmaa
open Go.RowKit

structure MsW where
  n : Nat
  b : List Int
/-- A wire: its row, and how many numbers were given. -/
structure WrW where
  row : List MsW
  gv : Nat
def bytW (l : List Int) : Prop := ∀ x ∈ l, 0 ≤ x ∧ x ≤ 255
structure WrW.Ok (s : WrW) : Prop where
  g : s.gv ≤ 4096
  r : s.row.length ≤ s.gv
  d : (s.row.map MsW.n).Nodup
  n : ∀ m ∈ s.row, 1 ≤ m.n ∧ m.n ≤ s.gv
  l : ∀ m ∈ s.row, m.b.length ≤ 1048576
  b : ∀ m ∈ s.row, bytW m.b
def plW (s : WrW) (n : Int) : Option Nat := s.row.findIdx? fun m => decide ((m.n : Int) = n)
theorem plW_some {s : WrW} {n : Int} {i : Nat} (h : plW s n = some i) : ∃ m, s.row[i]? = some m ∧ (m.n : Int) = n ∧ i < s.row.length := by
  unfold plW at h
  obtain ⟨hi, h1, -⟩ := List.findIdx?_eq_some_iff_getElem.1 h
  exact ⟨_, List.getElem?_eq_getElem hi, by simpa using h1, hi⟩
theorem plW_none {s : WrW} {n : Int} (h : plW s n = none) : ∀ m ∈ s.row, (m.n : Int) ≠ n := by
  unfold plW at h
  rw [List.findIdx?_eq_none_iff] at h
  intro r hr
  simpa using h r hr
theorem num_one {s : WrW} (h : s.Ok) {i j : Nat} {x y : MsW} (hx : s.row[i]? = some x) (hy : s.row[j]? = some y) (e : x.n = y.n) : i = j := by
  have hi := (List.getElem?_eq_some_iff.1 hx).1
  have h1 : (s.row.map MsW.n)[i]? = some x.n := by rw [List.getElem?_map, hx]; rfl
  have h2 : (s.row.map MsW.n)[j]? = some x.n := by rw [List.getElem?_map, hy, e]; rfl
  exact (List.getElem?_inj (by rw [List.length_map]; exact hi) h.d).1 (h1.trans h2.symm)
theorem plW_at {s : WrW} (h : s.Ok) {i : Nat} {m : MsW} (hm : s.row[i]? = some m) : plW s m.n = some i := by
  cases hp : plW s m.n with
  | none => exact absurd rfl (plW_none hp m (List.mem_of_getElem? hm))
  | some j =>
    obtain ⟨x, hx, hn, -⟩ := plW_some hp
    rw [num_one h hx hm (by omega)]
def putW (s : WrW) (b : List Int) : WrW := ⟨s.row ++ [⟨s.gv + 1, b⟩], s.gv + 1⟩
def sndE (s : WrW) (b : List Int) : Int := if 1048576 < b.length then 233 else if 4096 ≤ s.gv then 234 else 0
def sndN (s : WrW) (b : List Int) : Int := if sndE s b = 0 then ((s.gv + 1 : Nat) : Int) else 0
def sndS (s : WrW) (b : List Int) : WrW := if sndE s b = 0 then putW s b else s
def byW (s : WrW) (n : Int) : List Int := match plW s n with
  | none => []
  | some i => ((s.row[i]?).map MsW.b).getD []
def lokE (s : WrW) (n : Int) : Int := match plW s n with
  | none => 231
  | some _ => 0
def takS (s : WrW) (n : Int) : WrW := match plW s n with
  | none => s
  | some i => ⟨s.row.eraseIdx i, s.gv⟩
def cpyE (s : WrW) (n : Int) : Int := match plW s n with
  | none => 231
  | some _ => if 4096 ≤ s.gv then 234 else 0
def cpyN (s : WrW) (n : Int) : Int := if cpyE s n = 0 then ((s.gv + 1 : Nat) : Int) else 0
def cpyS (s : WrW) (n : Int) : WrW := if cpyE s n = 0 then putW s (byW s n) else s
theorem byW_at {s : WrW} {n : Int} {i : Nat} {m : MsW} (h : plW s n = some i) (hm : s.row[i]? = some m) : byW s n = m.b := by unfold byW; rw [h]; simp only; rw [hm]; rfl
theorem byW_byt {s : WrW} (h : s.Ok) (n : Int) : bytW (byW s n) := by
  cases hp : plW s n with
  | none => unfold byW; rw [hp]; intro x hx; simp at hx
  | some i =>
    obtain ⟨m, hm, -⟩ := plW_some hp
    rw [byW_at hp hm]
    exact h.b m (List.mem_of_getElem? hm)
theorem putW_ok {s : WrW} (h : s.Ok) (hg : s.gv < 4096) {b : List Int} (hb : bytW b) (hl : b.length ≤ 1048576) : (putW s b).Ok := by
  refine ⟨by unfold putW; simp only; omega, by unfold putW; simp only [List.length_append, List.length_singleton]; have := h.r; omega, ?_, ?_, ?_, ?_⟩
  · unfold putW
    simp only [List.map_append, List.map_cons, List.map_nil]
    rw [List.nodup_append]
    refine ⟨h.d, by simp, fun a ha c hc e => ?_⟩
    rw [List.mem_singleton] at hc
    obtain ⟨m, hm, rfl⟩ := List.mem_map.1 ha
    have := (h.n m hm).2
    omega
  · intro m hm
    unfold putW at hm ⊢
    simp only at hm ⊢
    rcases List.mem_append.1 hm with hm | hm
    · have := h.n m hm; omega
    · rw [List.mem_singleton] at hm; subst hm; simp
  · intro m hm
    rcases List.mem_append.1 hm with hm | hm
    · exact h.l m hm
    · rw [List.mem_singleton] at hm; subst hm; exact hl
  · intro m hm
    rcases List.mem_append.1 hm with hm | hm
    · exact h.b m hm
    · rw [List.mem_singleton] at hm; subst hm; exact hb
theorem takS_ok {s : WrW} (h : s.Ok) (n : Int) : (takS s n).Ok := by
  unfold takS
  cases hp : plW s n with
  | none => exact h
  | some i =>
    simp only
    refine ⟨h.g, ?_, ?_, fun m hm => h.n m (List.mem_of_mem_eraseIdx hm), fun m hm => h.l m (List.mem_of_mem_eraseIdx hm), fun m hm => h.b m (List.mem_of_mem_eraseIdx hm)⟩
    · have := List.length_eraseIdx_le s.row i; have := h.r; simp only; omega
    · exact ((List.eraseIdx_sublist s.row i).map MsW.n).nodup h.d
end Go.Proofs.Ytboomeeipnfbmaa
