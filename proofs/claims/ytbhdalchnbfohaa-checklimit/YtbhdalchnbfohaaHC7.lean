/-
  check.Check: a clause looked for; the whole.
-/
import Derived.Test.YtbhdalchnbfohaaHC6
namespace Go.Proofs.Ytbhdalchnbfohaa
open Go.RowKit
attribute [local go_sem ↓] Go.wp_at_zero Go.wp_at_succ

theorem same_keyH (c d : Cm) : c.same d = decide (c.key = d.key) := by
  unfold Cm.same Cm.key
  rw [Bool.eq_iff_iff]
  simp only [Bool.and_eq_true, decide_eq_true_eq, Prod.mk.injEq]
theorem hasOne_any (c d : Cm) (G : Nat) (w : World) (hc : c.ok w) (hd : d.ok w) (hb : CBlk w G d.cs 50) :
    Calls Try.prog 27 #[c.v, .pointer (some ⟨G, 0, none⟩)] w fun e w' => e = .returned (.bool (decide (c.key = d.key))) ∧ Below w.heap.size w w' := by
  have HS : Hid (∀ X : World, Below w.heap.size w X → Calls Try.prog 28 #[c.v, d.v] X fun e w' => e = .returned (.bool (decide (c.key = d.key))) ∧ Below X.heap.size X w') := fun X hX => by
    have := hsameC_any c d X (hc.later hX) (hd.later hX)
    rwa [same_keyH] at this
  obtain ⟨⟨a1, n1, cap1, x1⟩, ⟨a2, cap2, x2⟩, ⟨a3, cap3, x3⟩, -, -⟩ := hc.shape
  obtain ⟨⟨b1, m1, bap1, y1⟩, ⟨b2, bap2, y2⟩, ⟨b3, bap3, y3⟩, -, -⟩ := hd.shape
  generalize decide (c.key = d.key) = r at HS ⊢
  clear hc hd
  obtain ⟨⟨⟨⟨k, m, s⟩, nm, ls⟩, hx⟩, body, bv, tests, tv⟩ := c
  obtain ⟨⟨⟨⟨k', m', s'⟩, nm', ls'⟩, hx'⟩, body', bv', tests', tv'⟩ := d
  simp only at x1 x2 x3 y1 y2 y3
  subst x1 x2 x3 y1 y2 y3
  generalize body.length = n2 at HS ⊢
  generalize tests.length = n3 at HS ⊢
  have HB : Hid (CBlk (w.alloc (.cells #[.int .i64 k, .int .i64 m, .string s, .string nm, .slice a1 n1 cap1, .slice a2 n2 cap2, .slice a3 n3 cap3] 50)) G _ 50) := hb.later (below1 _ _)
  obtain ⟨q0, q1, q2, q3, q4, q5, q6⟩ := cseven HB.out
  clear hb
  go_enter Try.func27, Try.ntmps27
  go_wp2_with (go_at_call 28; refine (HS.out _ (below1 _ _)).mono ?_; rintro e w1 ⟨rfl, hb⟩)
  go_ret
  exact ⟨rfl, below_step (below1 _ _) hb⟩
set_option maxRecDepth 20000 in
set_option maxHeartbeats 1000000 in
theorem idxFC_any (l : List Cm) (v : Value) (d : Cm) (G : Nat) (w : World) (hl : CsP w v l) (hd : d.ok w) (hb : CBlk w G d.cs 50) (hn : l.length ≤ 1000000000000) :
    Calls Try.prog 36 #[v, .func (.func 27) #[] #[.pointer (some ⟨G, 0, none⟩)]] w fun e w' => (∃ k : Int, e = .returned (.int .i64 k) ∧ (0 ≤ k ↔ d.key ∈ l.map Cm.key)) ∧ Below w.heap.size w w' := by
  have HL : Hid (CsP w v l) := hl
  have HD : Hid (d.ok w) := hd
  have HB : Hid (CBlk w G d.cs 50) := hb
  obtain ⟨va, vc, rfl⟩ := hl.form
  obtain ⟨vn, hvn⟩ : ∃ n, n = l.length := ⟨_, rfl⟩
  rw [← hvn] at HL hn ⊢
  have HN : Hid (vn = l.length) := hvn
  clear hl hd hb hvn
  go_enter Try.func36, Try.ntmps36
  go_wp2
  go_loopg [8] vn (fun g i wr => ∃ j : Nat, j + g = vn ∧ i = .int .i64 j ∧ d.key ∉ (l.take j).map Cm.key ∧ Below w.heap.size w wr)
  case atStart => exact ⟨0, by omega, rfl, by simp, Below.refl _ _⟩
  case round =>
  obtain ⟨j, hj, rfl, hno, hbr⟩ := hrel
  have HNO : Hid (d.key ∉ (l.take j).map Cm.key) := hno
  have HBr : Hid (Below w.heap.size w wr) := hbr
  clear hno hbr
  cases gk with
  | succ g =>
    have i1 : (j : Int) < (vn : Int) := by omega
    have i0 : (0 : Int) ≤ (j : Int) := by omega
    obtain ⟨c, hc⟩ : ∃ c, l[j]? = some c := ⟨_, List.getElem?_eq_getElem (by have := HN.out; omega)⟩
    obtain ⟨b, o, rfl, hbs, hrow, hok⟩ := (HL.out.later HBr.out).at_ hc
    have hsv := hrow.seven hc
    have hcsh := hok.shape
    have HS0 := hasOne_any c d G wr hok (HD.out.later HBr.out) (HB.out.later HBr.out)
    have HYS : Hid (c.key = d.key → d.key ∈ l.map Cm.key) := fun h0 => by rw [← h0]; exact List.mem_map.2 ⟨c, List.mem_of_getElem? hc, rfl⟩
    have HNX : Hid (c.key ≠ d.key → d.key ∉ (l.take (j + 1)).map Cm.key) := fun h0 hm => by
      rw [List.take_add_one, hc, List.map_append] at hm
      rcases List.mem_append.1 hm with hm | hm
      · exact HNO.out hm
      · simp at hm; exact h0 hm.symm
    obtain ⟨q, hq⟩ : ∃ q, decide (c.key = d.key) = q := ⟨_, rfl⟩
    rw [hq] at HS0
    have HQ : Hid (decide (c.key = d.key) = q) := hq
    clear hc hbs hrow hok hq
    obtain ⟨⟨⟨⟨zk, zm, zs⟩, zn, zl⟩, zx⟩, zb, zbv, zt, ztv⟩ := c
    simp only at hsv hcsh
    obtain ⟨⟨z1, z2, z3, e1⟩, ⟨z4, z6, e2⟩, ⟨z7, z9, e3⟩, -, -⟩ := hcsh
    generalize zb.length = z5 at e2
    generalize zt.length = z8 at e3
    subst e1 e2 e3
    have HS : Hid (Calls Try.prog 27 #[.agg #[.int .i64 zk, .int .i64 zm, .string zs, .string zn, .slice z1 z2 z3, .slice z4 z5 z6, .slice z7 z8 z9], .pointer (some ⟨G, 0, none⟩)] wr fun e w' => e = .returned (.bool q) ∧ Below wr.heap.size wr w') := HS0
    obtain ⟨c0, g1, g2, g3, g4, g5, g6⟩ := hsv
    clear HS0
    cases q
    · have HN2 : Hid (d.key ∉ (l.take (j + 1)).map Cm.key) := HNX.out (of_decide_eq_false HQ.out)
      go_wp2_with (go_at_call 27; refine HS.out.mono ?_; rintro e w1 ⟨rfl, hb⟩; have HB1 : Hid (Below w.heap.size w w1) := below_step HBr.out hb; clear hb)
      go_roundg g
      case measure => omega
      case rel => exact ⟨j + 1, by omega, by go_num, HN2.out, HB1.out⟩
    · have HY2 : Hid (d.key ∈ l.map Cm.key) := HYS.out (of_decide_eq_true HQ.out)
      go_wp2_with (go_at_call 27; refine HS.out.mono ?_; rintro e w1 ⟨rfl, hb⟩; have HB1 : Hid (Below w.heap.size w w1) := below_step HBr.out hb; clear hb)
      go_ret
      exact ⟨⟨_, rfl, fun _ => HY2.out, fun _ => by omega⟩, HB1.out⟩
  | zero =>
    have k1 : ¬ ((j : Int) < (vn : Int)) := by omega
    have HN2 : Hid (d.key ∉ l.map Cm.key) := by have := HNO.out; rwa [List.take_of_length_le (by have := HN.out; omega)] at this
    go_wp2
    go_ret
    exact ⟨⟨_, rfl, fun h => by omega, fun h => absurd (List.mem_map.2 h) HN2.out⟩, HBr.out⟩
theorem hasClause_any (l : List Cm) (v : Value) (d : Cm) (w : World) (hl : CsP w v l) (hd : d.ok w) (hn : l.length ≤ 1000000000000) :
    Calls Try.prog 16 #[v, d.v] w fun e w' => e = .returned (.bool (decide (d.key ∈ l.map Cm.key))) ∧ Below w.heap.size w w' := by
  have HI : Hid (∀ (X : World) (G : Nat), Below w.heap.size w X → CBlk X G d.cs 50 → Calls Try.prog 26 #[v, .func (.func 27) #[] #[.pointer (some ⟨G, 0, none⟩)]] X fun e w' => e = .returned (.bool (decide (d.key ∈ l.map Cm.key))) ∧ Below X.heap.size X w') := fun X G hX hG => by
    have HI2 : Hid (Calls Try.prog 36 #[v, .func (.func 27) #[] #[.pointer (some ⟨G, 0, none⟩)]] X fun e w' => (∃ k : Int, e = .returned (.int .i64 k) ∧ (0 ≤ k ↔ d.key ∈ l.map Cm.key)) ∧ Below X.heap.size X w') := idxFC_any l v d G X (hl.later hX) (hd.later hX) hG hn
    obtain ⟨va, vc, rfl⟩ := hl.form
    by_cases hm : d.key ∈ l.map Cm.key
    · rw [decide_eq_true hm]
      go_enter Try.func26, Try.ntmps26
      go_wp2_with (go_at_call 36; refine HI2.out.mono ?_; rintro e w1 ⟨⟨k, rfl, hk⟩, hb⟩; have hk' := hk.2 hm; clear hk)
      go_ret
      exact ⟨rfl, hb⟩
    · rw [decide_eq_false hm]
      go_enter Try.func26, Try.ntmps26
      go_wp2_with (go_at_call 36; refine HI2.out.mono ?_; rintro e w1 ⟨⟨k, rfl, hk⟩, hb⟩; have hk' : ¬ 0 ≤ k := (fun h => hm (hk.1 h)); clear hk)
      go_ret
      exact ⟨ret_b (decide_eq_false (by omega)), hb⟩
  have hmf : ∀ (fn : Fn) (first cap : Array Value) (w : World), (Instr.makeFunc fn first cap).run Try.prog w = .ok (.func fn first cap) w := fun _ _ _ _ => rfl
  obtain ⟨va, vc, rfl⟩ := hl.form
  obtain ⟨⟨b1, m1, bap1, y1⟩, ⟨b2, bap2, y2⟩, ⟨b3, bap3, y3⟩, -, -⟩ := hd.shape
  generalize decide (d.key ∈ l.map Cm.key) = r at HI ⊢
  generalize l.length = ll at HI ⊢
  clear hl hd
  obtain ⟨⟨⟨⟨k', m', s'⟩, nm', ls'⟩, hx'⟩, body', bv', tests', tv'⟩ := d
  simp only at y1 y2 y3
  subst y1 y2 y3
  go_enter Try.func16, Try.ntmps16
  go_wp2_with (go_at_call 26; refine (HI.out _ _ (below1 _ _) (CBlk.new _ _ _)).mono ?_; rintro e w1 ⟨rfl, hb⟩)
  go_ret
  exact ⟨rfl, below_step (below1 _ _) hb⟩
end Go.Proofs.Ytbhdalchnbfohaa
