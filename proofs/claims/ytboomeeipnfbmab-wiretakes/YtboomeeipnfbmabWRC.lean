/-
  wire: the document's wire: behind, Next.
-/
import Derived.Test.YtboomeeipnfbmabWRB
namespace Go.Proofs.Ytboomeeipnfbmab
open Go.RowKit
attribute [local go_sem ↓] Go.wp_at_zero Go.wp_at_succ

theorem RzW.drewN {B : Nat} {T : Nat → Prop} {v : Value} {s : WrW} {Y : World} (h : RzW B T v s Y) (n : Nat) : RzW B T v s (Y.drewN n) := h.below ⟨rfl, rfl, rfl, Nat.le_refl _, fun _ _ => rfl⟩
set_option maxRecDepth 20000 in
set_option maxHeartbeats 2000000 in
theorem rbehW_any {B : Nat} {T : Nat → Prop} {g : Nat} {s : WrW} {Q : List MrW} {P : List Nat} {av : Value} {Y : World} (h : RzX B T g s Q P av Y) (a : Nat) :
    Calls Try.prog 47 #[.pointer (some ⟨g, 0, none⟩), .int .i64 (a : Int)] Y fun e Y' => ∃ n, e = .returned (.int .i64 ((n : Nat) : Int)) ∧ BhW (Q.map MrW.x) a (Q.map MrW.x).length n ∧ ∃ m, Y' = Y.drewN m := by
  have c0 : Y.cell? ⟨g, 0, none⟩ = some av := h.b.cell (i := 0) rfl
  obtain ⟨aa, cap, hav, -⟩ := row7_form h.a
  have hln : Q.length ≤ 4096 := by rw [h.len]; exact h.ok.g
  obtain ⟨N, hN⟩ : ∃ N, Q.length = N := ⟨_, rfl⟩
  rw [hN] at hav hln
  subst hav
  have HN := hm7 hN
  have HX := hm7 h
  rw [List.length_map, hN]
  have HP : Hid (∀ q ∈ Q, q.p ≤ 4096) := fun q hq => by
    obtain ⟨k, hk⟩ := List.getElem?_of_mem hq
    have hal : (Q.map MrW.x)[k]? = some q.x := by rw [List.getElem?_map, hk]; rfl
    rcases Nat.eq_zero_or_pos q.p with h0 | h0
    · omega
    · obtain ⟨i, m, hm, hn⟩ := h.rs.bw k q.x hal h0
      obtain ⟨p, -, -, hp2, -, -, hal2⟩ := h.rs.pl hm
      rw [show m.n - 1 = k by omega, hal] at hal2
      have : q.p = p := congrArg Prod.snd (Option.some.inj hal2)
      have := h.ok.g
      omega
  clear hN
  go_enter Try.func47, Try.ntmps47
  go_wp2
  go_loopg [5, 6] N (fun gg x y wr => ∃ j m nn : Nat, j + gg = N ∧ x = .int .i64 (nn : Int) ∧ y = .int .i64 ((j : Int) + 1) ∧ BhW (Q.map MrW.x) a j nn ∧ wr = Y.drewN m)
  case atStart => exact ⟨0, 0, 0, by omega, rfl, rfl, BhW.start _ _, rfl⟩
  case round =>
    obtain ⟨j, m, nn, hj, rfl, rfl, hb, rfl⟩ := hrel
    have HB := hm7 hb
    have hnn := hb.lt
    clear hb
    cases gk with
    | succ gg =>
      have hlt : (j : Int) + 1 ≤ (N : Int) := by omega
      have j0 : (0 : Int) ≤ (j : Int) := by omega
      have j1 : (j : Int) < (N : Int) := by omega
      obtain ⟨q, hq⟩ : ∃ q, Q[j]? = some q := ⟨_, List.getElem?_eq_getElem (by have := HN.out; omega)⟩
      obtain ⟨g', rfl, -, -, -, -, -, q1, -⟩ := h.at_ hq
      have hqp := HP.out q (List.mem_of_getElem? hq)
      have HQ : Hid ((Q.map MrW.x)[j]? = some q.x) := by show _ = _; rw [List.getElem?_map, hq]; rfl
      obtain ⟨p, hp⟩ : ∃ p, q.p = p := ⟨_, rfl⟩
      rw [hp] at q1 hqp
      have HPE := hm7 hp
      clear hq hp h
      have hs1 : (j : Int) + 1 - 1 = (j : Int) := by omega
      by_cases h1 : a < p
      · have d1 : decide ((p : Int) > (a : Int)) = true := decide_eq_true (by omega)
        have d1' : decide ((a : Int) < (p : Int)) = true := decide_eq_true (by omega)
        rcases Nat.eq_zero_or_pos nn with h0 | h0
        · subst h0
          go_wp2
          go_quiet (fail)
          go_wp2
          go_roundg gg
          case measure => omega
          case rel => exact ⟨j + 1, _, j + 1, by omega, by go_num, by go_num, BhW.first HB.out HQ.out (by show a < q.p; rw [HPE.out]; exact h1), rfl⟩
        · obtain ⟨c, rfl⟩ : ∃ c, nn = c + 1 := ⟨nn - 1, by omega⟩
          have d2 : (((c + 1 : Nat) : Int) == 0) = false := by simp; omega
          have d2' : ((c : Int) + 1 == 0) = false := by simp; omega
          obtain ⟨y, hy⟩ : ∃ q, Q[c]? = some q := ⟨_, List.getElem?_eq_getElem (by have := HN.out; omega)⟩
          obtain ⟨_, e4, -, -, -, -, -, y1, -⟩ := HX.out.at_ hy
          cases e4
          have hyp := HP.out y (List.mem_of_getElem? hy)
          have HY : Hid ((Q.map MrW.x)[c + 1 - 1]? = some y.x) := by show _ = _; rw [Nat.add_sub_cancel, List.getElem?_map, hy]; rfl
          obtain ⟨r, hr⟩ : ∃ r, y.p = r := ⟨_, rfl⟩
          rw [hr] at y1 hyp
          have HRE := hm7 hr
          have k0 : (0 : Int) ≤ (c : Int) := by omega
          have k1 : (c : Int) < (N : Int) := by omega
          clear hy hr
          have ec : ((c + 1 : Nat) : Int) = (c : Int) + 1 := by omega
          rw [ec]
          by_cases h2 : p < r
          · have d3 : decide ((p : Int) < (r : Int)) = true := decide_eq_true (by omega)
            go_wp2
            go_quiet (fail)
            go_wp2
            go_roundg gg
            case measure => omega
            case rel => exact ⟨j + 1, _, j + 1, by omega, by go_num, by go_num, BhW.less HB.out (by omega) HQ.out (by show a < q.p; rw [HPE.out]; exact h1) HY.out (by show q.p < y.p; rw [HPE.out, HRE.out]; exact h2), rfl⟩
          · have d3 : decide ((p : Int) < (r : Int)) = false := decide_eq_false (by omega)
            go_wp2
            go_quiet (fail)
            go_wp2
            go_roundg gg
            case measure => omega
            case rel => exact ⟨j + 1, _, c + 1, by omega, by go_num, by go_num, BhW.more HB.out (by omega) HQ.out HY.out (by show y.p ≤ q.p; rw [HPE.out, HRE.out]; omega), rfl⟩
      · have d1 : decide ((p : Int) > (a : Int)) = false := decide_eq_false (by omega)
        have d1' : decide ((a : Int) < (p : Int)) = false := decide_eq_false (by omega)
        go_wp2
        go_quiet (fail)
        go_wp2
        go_roundg gg
        case measure => omega
        case rel => exact ⟨j + 1, _, nn, by omega, rfl, by go_num, BhW.low HB.out HQ.out (by show q.p ≤ a; rw [HPE.out]; omega), rfl⟩
    | zero =>
      have hlt : ¬ (j : Int) + 1 ≤ (N : Int) := by omega
      obtain rfl : j = N := by omega
      clear h
      go_wp2
      go_ret
      exact ⟨nn, rfl, HB.out, _, rfl⟩
set_option maxRecDepth 20000 in
theorem rnextW_any {B : Nat} {T : Nat → Prop} {v : Value} {s : WrW} {Y : World} (h : RzW B T v s Y) :
    Calls Try.prog 32 #[v] Y fun e Y' => e = .returned (.int .i64 (nxtW s)) ∧ ∃ m, Y' = Y.drewN m := by
  obtain ⟨g, Q, P, av, rfl, h⟩ := h
  have HB := hm7 (rbehW_any h 0)
  have HX := hm7 h
  clear h
  go_enter Try.func32, Try.ntmps32
  go_wp2_with (go_at_call 47; refine HB.out.mono ?_; rintro e Y1 ⟨n, rfl, hb, m, rfl⟩; have HH := hm7 hb; clear hb)
  go_ret
  refine ⟨ret_i ?_, _, rfl⟩
  rw [← numW_zero]
  congr 1
  exact HH.out.is HX.out.rs 0 (fun j p _ hj => by omega) fun j p hp _ => (HX.out.rs.lo j p hp).1
end Go.Proofs.Ytboomeeipnfbmab
