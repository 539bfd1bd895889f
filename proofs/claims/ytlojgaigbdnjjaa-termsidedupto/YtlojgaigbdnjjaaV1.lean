/-
  says and rising of the laws.
-/
import Derived.Test.YtlojgaigbdnjjaaD2
namespace Go.Proofs.Ytlojgaigbdnjjaa
open Go.RowKit

def sayT (l : List Bd) (x : Int) : Tm := (look l x).getD ⟨3, x, ⟨#[]⟩⟩
theorem sayT_t {l : List Bd} {x : Int} (h : lookB l x = true) : sayT l x = lookT l x := by
  unfold lookB at h; unfold sayT lookT
  cases e : look l x with
  | none => rw [e] at h; cases h
  | some t => rfl
theorem sayT_f {l : List Bd} {x : Int} (h : lookB l x = false) : sayT l x = ⟨3, x, ⟨#[]⟩⟩ := by
  unfold lookB at h; unfold sayT
  cases e : look l x with
  | none => rfl
  | some t => rw [e] at h; cases h
set_option maxHeartbeats 1000000 in
theorem says_any (l : List Bd) (v : Value) (x : Int) (w : World) (h : Bs w v l) :
    Calls Try.prog 18 #[v, .int .i64 x] w fun e w' => e = .returned (sayT l x).v ∧ Below w.heap.size w w' := by
  have HV : Hid (Bs w v l) := h
  clear h
  obtain ⟨k, n, s, ht⟩ : ∃ k n s, lookT l x = ⟨k, n, s⟩ := ⟨_, _, _, rfl⟩
  obtain ⟨b, hb⟩ : ∃ b, lookB l x = b := ⟨_, rfl⟩
  have HT : Hid (lookT l x = ⟨k, n, s⟩) := ht
  have HB : Hid (lookB l x = b) := hb
  clear ht hb
  go_enter Try.func18, Try.ntmps18
  cases b
  · go_wp2_with (go_at_call 36; refine (look_any l v x _ (HV.out.later (below1 _ _))).mono ?_; rw [HT.out, HB.out]; rintro e w1 ⟨rfl, hb1⟩; have C1 := (Box1.start _ _ _).later hb1; obtain ⟨q0, q1, q2, f0, f1, f2⟩ := three C1.1; have zz : w.heap.size < w1.heap.size := (Array.getElem?_eq_some_iff.1 C1.1).1; have B1 : Hid (Box1 _ _ _ _) := C1; clear C1 hb1)
    refine bodyPost_ret (v := Tm.v ⟨3, x, ⟨#[]⟩⟩) (by simp [results, Try.results18, go_sem, q0, q1, q2, zz]) rfl ⟨?_, ?_⟩
    · rw [sayT_f HB.out]
    · exact balloc (bset (bset (bset (Hid.out B1).2 (Nat.le_refl _)) (Nat.le_refl _)) (Nat.le_refl _))
  · go_wp2_with (go_at_call 36; refine (look_any l v x _ (HV.out.later (below1 _ _))).mono ?_; rw [HT.out, HB.out]; rintro e w1 ⟨rfl, hb1⟩; have C1 := (Box1.start _ _ _).later hb1; obtain ⟨q0, q1, q2, f0, f1, f2⟩ := three C1.1; have zz : w.heap.size < w1.heap.size := (Array.getElem?_eq_some_iff.1 C1.1).1; have B1 : Hid (Box1 _ _ _ _) := C1; clear C1 hb1)
    refine bodyPost_ret (v := Tm.v ⟨k, n, s⟩) (by simp [results, Try.results18, go_sem, q0, q1, q2, zz]) rfl ⟨?_, ?_⟩
    · rw [sayT_t HB.out, HT.out]
    · exact balloc (bset (bset (bset (Hid.out B1).2 (Nat.le_refl _)) (Nat.le_refl _)) (Nat.le_refl _))
set_option maxHeartbeats 1000000 in
theorem rising_any (l : List Bd) (v : Value) (w : World) (h : Bs w v l) (hr : ∀ i a b, l[i]? = some a → l[i + 1]? = some b → a.x < b.x) :
    Calls Try.prog 15 #[v] w fun e w' => e = .returned (.bool true) ∧ Below w.heap.size w w' := by
  obtain ⟨ad, cap, rfl, hl, h⟩ := h
  have HR : Hid (∀ i a b, l[i]? = some a → l[i + 1]? = some b → a.x < b.x) := hr
  clear hr
  go_enter Try.func15, Try.ntmps15
  go_wp2
  go_loopw [3] (fun i wr => ∃ k : Nat, i = .int .i64 (k + 1 : Nat) ∧ k ≤ l.length ∧ Below w.heap.size w wr) (fun i _ => l.length + 1 - (intOf i).toNat)
  case atStart => exact ⟨0, rfl, by omega, Below.refl _ _⟩
  case round =>
    obtain ⟨k, rfl, hk, hbel⟩ := hrel
    by_cases hlt : k + 1 < l.length
    · rcases h with h | ⟨b, o, rfl, hbs, h⟩
      · subst h; simp at hlt
      · obtain ⟨d, hd⟩ : ∃ d, l[k]? = some d := ⟨l[k], List.getElem?_eq_getElem (by omega)⟩
        obtain ⟨d', hd'⟩ : ∃ d, l[k + 1]? = some d := ⟨l[k + 1], List.getElem?_eq_getElem hlt⟩
        have hx := HR.out k d d' hd hd'
        obtain ⟨c0, -, -, -⟩ := h k d hd
        obtain ⟨c1, -, -, -⟩ := h (k + 1) d' hd'
        rw [← hbel.cell (p := ⟨b, _, none⟩) hbs] at c0 c1
        obtain ⟨dx, dt⟩ := d
        obtain ⟨ex, et⟩ := d'
        simp only at c0 c1 hx
        clear h hd hd'
        have hq : decide (ex ≤ dx) = false := by simpa using hx
        have i0 : ((k : Int) + 1 - 1) = (k : Int) := by omega
        have i1 : (0 : Int) ≤ (k : Int) := by omega
        have i2 : (k : Int) < (l.length : Int) := by omega
        have i3 : (0 : Int) ≤ (k : Int) + 1 := by omega
        have i4 : (k : Int) + 1 < (l.length : Int) := by omega
        go_wp2
        go_quiet (fail)
        go_wp2
        go_roundw
        case rel => exact ⟨k + 1, by go_num, by omega, below_drewN hbel _⟩
        case measure => simp [intOf]; omega
    · clear h
      go_wp2
      go_ret
      exact ⟨rfl, hbel⟩
end Go.Proofs.Ytlojgaigbdnjjaa
