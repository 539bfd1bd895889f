import Derived.Test.YtechceagghcipaaGreatDoorB4
namespace Go.Proofs.YtechceagghcipaaGreatDoor
open Go.RowKit

set_option maxHeartbeats 1000000 in
theorem rlook_any (l : List Bd) (v : Value) (x : Int) (w : World) (h : Bs w v l) :
  Calls Tryz.prog 151 #[v, .int .i64 x] w fun e w' => e = .returned (.tuple #[(lookT l x).v, .bool (lookB l x)]) /\ Below w.heap.size w w' := by
 obtain ⟨ad, cap, rfl, hl, h⟩ := h
 go_enter Tryz.func151, Tryz.ntmps151
 go_wp2
 go_loopw [6] (fun i wr => ∃ k : Nat, k <= l.length /\ i = .int .i64 k /\ look l x = look (l.drop k) x /\ Below w.heap.size w wr ∧
   wr.heap[w.heap.size]? = some (.cells #[.int .i64 0, .int .i64 0, .string ⟨#[]⟩] 24 (0, 0))) (fun i _ => l.length - (intOf i).toNat)
 case atStart => exact ⟨0, by omega, rfl, by simp, below1 _ _, heap_alloc_new _ _⟩
 case round =>
  obtain ⟨k, hk, rfl, hlk, hbel, hres⟩ := hrel
  have HL : Hid (look l x = look (l.drop k) x) := hlk
  clear hlk
  by_cases hlt : k < l.length
  ·rcases h with h | ⟨b, o, rfl, hbs, h⟩
   ·subst h; simp at hlt
   ·obtain ⟨d, hd⟩ : ∃ d, l[k]? = some d := ⟨l[k], List.getElem?_eq_getElem hlt⟩
    obtain ⟨c0, c1, c2, c3⟩ := h k d hd
    have HD : Hid (l[k]? = some d) := hd
    rw [<- hbel.cell (p := ⟨b, _, none⟩) hbs] at c0 c1 c2 c3
    obtain ⟨q0, q1, q2, f0, f1, f2⟩ := three hres
    have hws : w.heap.size < wr.heap.size := (Array.getElem?_eq_some_iff.1 hres).1
    have hbw : b < wr.heap.size := by omega
    obtain ⟨dx, dk, dn, ds⟩ := d
    simp only at c0 c1 c2 c3
    have HR0 : Hid (wr.heap[w.heap.size]? = some (.cells #[.int .i64 0, .int .i64 0, .string ⟨#[]⟩] 24 (0, 0))) := hres
    clear h hd hres
    have i1 : (0 : Int) <= (k : Int) := by omega
    have i2 : (k : Int) < (l.length : Int) := by omega
    by_cases hx : dx = x
    ·have hq : (dx == x) = true := by simpa using hx
     go_wp2
     refine bodyPost_ret (v := .tuple #[Tm.v ⟨dk, dn, ds⟩, .bool true]) (by simp [results, Tryz.results151, go_sem, q0, q1, q2]) rfl ⟨?_, ?_⟩
     ·have e := HL.out.trans (look_hit l x k _ HD.out hx)
      simp [lookT, lookB, e]
     ·exact (((hbel.setCell (Nat.le_refl _) _).setCell (Nat.le_refl _) _).setCell (Nat.le_refl _) _)
    ·have hq : (dx == x) = false := by simpa using hx
     have HX : Hid (look l x = look (l.drop (k + 1)) x) := HL.out.trans (look_drop l x k _ HD.out hx)
     go_wp2
     go_roundw
     case rel => exact ⟨k + 1, by omega, by go_num, HX.out, hbel, HR0.out⟩
     case measure => simp [intOf]; omega
  ·obtain ⟨q0, q1, q2, f0, f1, f2⟩ := three hres
   clear h
   go_wp2
   refine bodyPost_ret (v := .tuple #[zt.v, .bool false]) (by simp [results, Tryz.results151, go_sem, q0, q1, q2, zt]) rfl ⟨?_, ?_⟩
   ·have e := HL.out
    rw [List.drop_eq_nil_of_le (by omega)] at e
    simp [lookT, lookB, e, look]
   ·exact (((hbel.setCell (Nat.le_refl _) _).setCell (Nat.le_refl _) _).setCell (Nat.le_refl _) _)
end Go.Proofs.YtechceagghcipaaGreatDoor
