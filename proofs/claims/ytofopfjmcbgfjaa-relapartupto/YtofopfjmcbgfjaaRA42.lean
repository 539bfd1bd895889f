import Derived.Test.YtofopfjmcbgfjaaRA36
import Derived.RangeFuncCalls
import Derived.Shelf.Abstract
import Derived.Shelf.RegionOpen
import Derived.WalkKit
import Derived.OwnWalkIn
import Derived.TacticsInMore
import Derived.LoopNIn
import Derived.LoopIn
import Derived.Test.YtofopfjmcbgfjaaRA41
/-
  rel: what a range over Find's answer hands out, whatever the round does to the relation. (Out of RA21.)
-/
namespace Go.Proofs.Ytofopfjmcbgfjaa
open Go.RowKit Go.Shelf
attribute [local go_sem] Oper.semAt_some

/-- What the range does ahead of the first row: from B on lies what it holds itself. -/
def FEffY (g : Nat) (F S G : Nat → Prop) (m : Nat) (s : St7) (W : World) (B : Nat) (W1 : World) : Prop :=
  ∃ F' : Nat → Prop, RM W1 g F' (fun b => S b ∨ G b) (m + 1) s ∧ Fr F W W1 ∧ (∀ b, F b → F' b) ∧ (∀ b, F' b → (F b ∨ W.heap.size ≤ b) ∧ b < B) ∧ W.heap.size ≤ B ∧ B ≤ W1.heap.size
set_option maxRecDepth 100000 in
set_option maxHeartbeats 1000000 in
theorem find_seqY (g : Nat) (F S G N : Nat → Prop) (m : Nat) (s : St7) (parts : Int) (cols : List Nat) (nums : List Int) (sv nv : Value) (b1 b2 b3 b4 b5 : Nat) (xs : List (List Int)) (hx : srtR xs) (hxp : xs.Perm (sel7 s parts cols nums)) (hxl : ∀ x ∈ xs, x.length ≤ 100000000000) (hxn : xs.length ≤ 100000000000)
    (hcl : cols.length ≤ 10000000000) (hcw : ∀ c ∈ cols, c < s.wd) (hnl : nums.length ≤ 10000000000) (hm : m ≤ 100000000000000) :
    SeqY Try.prog 32 #[.pointer (some ⟨b1, 0, none⟩), .pointer (some ⟨b2, 0, none⟩), .pointer (some ⟨b3, 0, none⟩), .pointer (some ⟨b4, 0, none⟩), .pointer (some ⟨b5, 0, none⟩)] xs (FD0 g F S G N m s parts cols nums sv nv b1 b2 b3 b4 b5) (FEffY g F S G m s) (FK S G) := by
  intro n l J Jx W hd hEff hK hY
  have HFO := hm7 (callsIn_wide (n := n - 1).2 (found7_any sort_ok7 g F S G N m s parts cols nums sv nv W hd.r hd.s hd.g hcl hcw hd.n hd.f hnl hm))
  have c1 := hd.b.p.cell (i := 0) rfl
  have c2 := hd.b.r.cell (i := 0) rfl
  have c3 := hd.b.q.cell (i := 0) rfl
  have c4 := hd.b.s.cell (i := 0) rfl
  have c5 := hd.b.n.cell (i := 0) rfl
  obtain ⟨na, nn, nc, rfl⟩ : ∃ a n c, nv = .slice a n c := by obtain ⟨a, c, e, -⟩ := hd.n; exact ⟨_, _, _, e⟩
  obtain ⟨sa, sn, sc, rfl⟩ : ∃ a n c, sv = .slice a n c := by obtain ⟨a, c, e, -⟩ := hd.s; exact ⟨_, _, _, e⟩
  have HD := hm7 hd
  have HEff := hm7 hEff
  have HK := hm7 hK
  have HY := hm7 hY
  have HXL := hm7 hxl
  have HX := hm7 (And.intro hx hxp)
  clear hd hEff hK hY hcw hxl hx hxp
  refine callsIn_of_wp Try.func32 rfl trivial ?_ rfl
  simp only [Try.ntmps32, List.size_toArray, List.length_cons, List.length_nil, Nat.reduceAdd, Nat.reduceSub, Array.replicate_succ, Array.replicate_zero, List.push_toArray, List.append_toArray, List.nil_append, List.cons_append]
  gi_wp2
  refine ⟨trivial, fun h => (by cases h), HFO.out.mono ?_⟩
  rintro e w2 ⟨v, F', P, B, rfl, hrm, hfr, ha, hd, hB1, hB2, ho, hp, hpp, hps⟩
  obtain ⟨a, cap, hv, -⟩ := row7_form ho
  obtain ⟨k, hk⟩ : ∃ k, P.length = k := ⟨_, rfl⟩
  rw [hk] at hv ho
  subst hv
  have HRM := hm7 (And.intro hrm (And.intro hfr (And.intro ha hd)))
  have HO := hm7 ho
  have HP := hm7 hp
  have HPX := hm7 (srtR_uniq hps HX.out.1 (hpp.trans HX.out.2.symm))
  have HPK := hm7 hk
  clear hrm hfr ha hd ho hp hpp hps hk
  gi_wp2
  have HJ0 : Hid (J B w2.heap.size [] w2) := HEff.out B w2 ⟨F', HRM.out.1, HRM.out.2.1, HRM.out.2.2.1, HRM.out.2.2.2, hB1, hB2⟩
  have hkx : xs.length = k := by rw [← HPX.out, List.length_map, HPK.out]
  clear HEff HFO c1 c2 c3 c4 c5
  gi_loopw [17] (fun p wr => ∃ (q : Nat), p = .int .i64 (q : Int) ∧ q ≤ k ∧ J B w2.heap.size (xs.take q) wr ∧ Uq B w2.heap.size w2 wr) (fun p _ => k - (intOf p).toNat)
  case atStart => exact ⟨0, rfl, Nat.zero_le _, HJ0.out, Uq.refl _ _ _⟩
  case round =>
    obtain ⟨q, rfl, hq, hJr, huq⟩ := hrel
    have HJr := hm7 hJr
    have HUQ := hm7 huq
    clear hJr HJ0 huq
    by_cases hlt : q < k
    · have i0 : (0 : Int) ≤ (q : Int) := by omega
      have i1 : (q : Int) < (k : Int) := by omega
      obtain ⟨x, hxq⟩ : ∃ x, P[q]? = some x := ⟨_, List.getElem?_eq_getElem (by rw [HPK.out]; exact hlt)⟩
      have hxx : xs[q]? = some x.1 := by rw [← HPX.out, List.getElem?_map, hxq]; rfl
      obtain ⟨bg, rfl, hbg, hbl, hc, -⟩ := row7_at HO.out (i := q) (u := x.2) (by rw [List.getElem?_map, hxq]; rfl)
      rw [← World.cell?_of_block (w := w2) (w' := wr) (a := ⟨bg, q, none⟩) (HUQ.out.same bg (by omega) hbl hbl)] at hc
      have hli : Li (fun b => S b ∨ G b) wr x.2 x.1 := (HP.out x (List.mem_of_getElem? hxq)).same HUQ.out.size fun b hb hl => by
        have hbW : b < W.heap.size := hb.elim (HD.out.r.q2 b) fun hg => (HD.out.g b hg).2
        rw [HK.out _ _ _ _ HJr.out b hb, HRM.out.2.1.block b hbW fun hF => hb.elim (HD.out.r.q b hF).1 fun hg => (HD.out.g b hg).1 hF]
      have HCL := hm7 (callsIn_wide (n := n - 1).2 (clone7_any _ x.2 x.1 wr hli (HXL.out _ (List.mem_of_getElem? hxx))))
      obtain ⟨xa, xc, hxv, -⟩ := hli
      obtain ⟨x, xv⟩ := x
      simp only at hxv hxx hc HCL
      subst hxv
      clear hxq
      have HXX := hm7 hxx
      clear hxx
      gi_wp2
      refine ⟨trivial, fun h => (by cases h), HCL.out.mono ?_⟩
      rintro e w3 ⟨v3, rfl, ho3, hb3⟩
      obtain ⟨a3, c3, hv3, -⟩ := row7_form ho3
      subst hv3
      obtain ⟨fn, tmps, assign, bd, hy, hR⟩ := HY.out (n - 1) _ _ _ x _ wr w3 HJr.out (pre_take0 HXX.out) hb3 ho3
      have HB3 := hm7 hb3
      clear hb3 ho3
      gi_wp2
      refine ⟨fun h => (by cases h), hR.mono ?_⟩
      clear hR hy
      rintro e W3 (⟨rfl, hJ3, hu3⟩ | ⟨rfl, hx3, -⟩)
      · have HJ3 : Hid (J B w2.heap.size (xs.take (q + 1)) W3) := by
          show J _ _ _ W3; rw [take_next0 HXX.out]; exact hJ3
        have HU3 : Hid (Uq B w2.heap.size w2 W3) := HUQ.out.trans ((Uq.below HB3.out).trans hu3)
        clear hJ3 hu3
        gi_wp2
        go_roundw
        case rel => exact ⟨q + 1, by go_num, by omega, HJ3.out, HU3.out⟩
        case measure => simp [intOf]; omega
      · have HX3 := hm7 hx3
        clear hx3
        gi_wp2
        refine bodyPost_ret (results_none rfl _ _ _) rfl ?_
        exact ⟨⟨_, rfl⟩, _, _, .inr ⟨_, pre_take0 HXX.out, HX3.out⟩⟩
    · obtain rfl : q = k := by omega
      have i1 : ¬ ((q : Int) < (q : Int)) := by omega
      gi_wp2
      go_end0
      have := HJr.out
      rw [← hkx, List.take_length] at this
      exact ⟨⟨_, rfl⟩, _, _, .inl this⟩
end Go.Proofs.Ytofopfjmcbgfjaa
/-
  rel: Find by columns.
-/
namespace Go.Proofs.Ytofopfjmcbgfjaa
open Go.RowKit Go.Shelf

/-- Why Find by these columns gives nothing. -/
def bad7 (wd : Nat) (cols keys : List Int) : Prop := cols.length ≠ keys.length ∨ (∃ c ∈ cols, col7 wd c = false) ∨ ∃ l, unq7 (cols.zip keys) l ∧ ∃ j p q, l[j]? = some p ∧ l[j + 1]? = some q ∧ p.1 = q.1
/-- What Find by columns leaves. -/
def FI (w : World) (g : Nat) (parts : Int) (wd : Nat) (cols keys : List Int) (e : Ending) (w' : World) : Prop :=
  Below w.heap.size w w' ∧ ∃ b1 b2 b3 b4 b5, e = .returned (fnd7 b1 b2 b3 b4 b5) ∧ (w.heap.size ≤ b1 ∧ w.heap.size ≤ b2 ∧ w.heap.size ≤ b3 ∧ w.heap.size ≤ b4 ∧ w.heap.size ≤ b5) ∧
    ((Bk w' b1 #[.bool false] 4 ∧ bad7 wd cols keys) ∨ ∃ sv nv l, FB w' g parts sv nv b1 b2 b3 b4 b5 ∧ cols.length = keys.length ∧ (∀ c ∈ cols, col7 wd c = true) ∧ unq7 (cols.zip keys) l ∧ (∀ j p q, l[j]? = some p → l[j + 1]? = some q → p.1 ≠ q.1) ∧ OwI w' w.heap.size sv (l.map Prod.fst) ∧ OwI w' w.heap.size nv (l.map Prod.snd))
theorem SE.form {w w' : World} {wd : Nat} {cols keys : List Int} {e : Ending} (h : SE w wd cols keys e w') : ∃ a1 n1 c1 a2 n2 c2 ok, e = .returned (.tuple #[.slice a1 n1 c1, .slice a2 n2 c2, .bool ok]) ∧ Below w.heap.size w w' ∧ (ok = false → bad7 wd cols keys) ∧ (ok = true → cols.length = keys.length ∧ (∀ c ∈ cols, col7 wd c = true) ∧ ∃ l, unq7 (cols.zip keys) l ∧ (∀ j p q, l[j]? = some p → l[j + 1]? = some q → p.1 ≠ q.1) ∧ OwI w' w.heap.size (.slice a1 n1 c1) (l.map Prod.fst) ∧ OwI w' w.heap.size (.slice a2 n2 c2) (l.map Prod.snd)) := by
  obtain ⟨hb, ⟨rfl, h⟩ | ⟨sv, nv, rfl, h1, h2, l, h3, h4, h5, h6⟩⟩ := h
  · exact ⟨none, 0, 0, none, 0, 0, false, rfl, hb, fun _ => h, (fun e => by cases e)⟩
  · obtain ⟨a1, c1, rfl, -⟩ := row7_form h5
    obtain ⟨a2, c2, rfl, -⟩ := row7_form h6
    exact ⟨a1, _, c1, a2, _, c2, true, rfl, hb, (fun e => by cases e), fun _ => ⟨h1, h2, l, h3, h4, h5, h6⟩⟩
attribute [local go_sem ↓] Go.wp_at_zero Go.wp_at_succ
set_option maxRecDepth 20000 in
set_option maxHeartbeats 1000000 in
theorem find8_any (g : Nat) (F S G N : Nat → Prop) (m : Nat) (s : St7) (parts : Int) (cols keys : List Int) (cv kv : Value) (w : World) (h : RM w g F S m s) (hc : Li G w cv cols) (hk : Li N w kv keys) (hl : cols.length ≤ 1000000000) :
    Calls Try.prog 13 #[.pointer (some ⟨g, 0, none⟩), .int .i64 parts, cv, kv] w (FI w g parts s.wd cols keys) := by
  obtain ⟨W2, hW2⟩ : ∃ W2, (w.alloc (.cells #[.pointer (some ⟨g, 0, none⟩)] 25)).alloc (.cells #[.int .i64 parts] 3) = W2 := ⟨_, rfl⟩
  have hz : W2.heap.size = w.heap.size + 2 := by rw [← hW2]; simp
  have hbw : Below w.heap.size w W2 := by rw [← hW2]; exact below2 _ _ _
  have k1 : Bk W2 w.heap.size #[.pointer (some ⟨g, 0, none⟩)] 25 := by rw [← hW2]; exact (Bk.new _ _ _).below (below1 _ _)
  have k2 : Bk W2 (w.heap.size + 1) #[.int .i64 parts] 3 := by
    have := Bk.new (w.alloc (.cells #[.pointer (some ⟨g, 0, none⟩)] 25)) #[.int .i64 parts] 3
    rw [World.size_alloc, hW2] at this
    exact this
  have c1 := k1.cell (i := 0) rfl
  have HS := hm7 (settle7_any g F S G N m s cols keys cv kv W2 (h.below hbw) (hc.below hbw) (hk.below hbw) hl)
  obtain ⟨ca, cn, cc, rfl⟩ : ∃ a n c, cv = .slice a n c := by obtain ⟨a, c, e, -⟩ := hc; exact ⟨_, _, _, e⟩
  obtain ⟨ka, kn, kc, rfl⟩ : ∃ a n c, kv = .slice a n c := by obtain ⟨a, c, e, -⟩ := hk; exact ⟨_, _, _, e⟩
  have HKK := hm7 (And.intro k1 (And.intro k2 hbw))
  clear h hc hk k1 k2 hbw
  go_enter Try.func13, Try.ntmps13
  go_upto_region 1 with fail
  clear hW2
  go_wp2_with (go_at_call 31; refine HS.out.mono ?_; rintro e w1 hse; obtain ⟨a1, n1, c1, a2, n2, c2, ok, rfl, hb, hbad, hgood⟩ := hse.form; have HB := hm7 hb; have HBAD := hm7 hbad; have HGOOD := hm7 hgood; clear hb hbad hgood hse)
  have hs1 := HB.out.size
  obtain ⟨x2, hx2⟩ : ∃ x, w1.alloc (.cells #[.slice a1 n1 c1] 23) = x := ⟨_, rfl⟩
  obtain ⟨x3, hx3⟩ : ∃ x, x2.alloc (.cells #[.slice a2 n2 c2] 23) = x := ⟨_, rfl⟩
  obtain ⟨x4, hx4⟩ : ∃ x, x3.alloc (.cells #[.bool ok] 4) = x := ⟨_, rfl⟩
  have b2 : Below w1.heap.size w1 x2 := by rw [← hx2]; exact below1 _ _
  have b3 : Below x2.heap.size x2 x3 := by rw [← hx3]; exact below1 _ _
  have b4 : Below x3.heap.size x3 x4 := by rw [← hx4]; exact below1 _ _
  have z2 : x2.heap.size = w1.heap.size + 1 := by rw [← hx2]; simp
  have z3 : x3.heap.size = x2.heap.size + 1 := by rw [← hx3]; simp
  have e2 : Bk x2 w1.heap.size #[.slice a1 n1 c1] 23 := by rw [← hx2]; exact Bk.new _ _ _
  have e3 : Bk x3 x2.heap.size #[.slice a2 n2 c2] 23 := by rw [← hx3]; exact Bk.new _ _ _
  have e4 : Bk x4 x3.heap.size #[.bool ok] 4 := by rw [← hx4]; exact Bk.new _ _ _
  have b14 : Below w1.heap.size w1 x4 := b2.trans ((b3.mono (by omega)).trans (b4.mono (by omega)))
  have hbw := HKK.out.2.2
  have HFB : ok = true → FB x4 g parts (.slice a1 n1 c1) (.slice a2 n2 c2) (w1.heap.size + 1 + 1) w.heap.size (w.heap.size + 1) w1.heap.size (w1.heap.size + 1) := fun hok => by
    refine ⟨?_, (HKK.out.1.below HB.out).below b14, (HKK.out.2.1.below HB.out).below b14, (e2.below b3).below b4, ?_⟩
    · rw [← z2, ← z3, ← hok]; exact e4
    · rw [← z2]; exact e3.below b4
  rw [hx2, hx3, hx4]
  go_ret
  refine ⟨hbw.trans ((HB.out.mono (by omega)).trans (b14.mono (by omega))), w1.heap.size + 1 + 1, w.heap.size, w.heap.size + 1, w1.heap.size, w1.heap.size + 1, rfl, by omega, ?_⟩
  cases ok with
  | false => exact Or.inl ⟨by rw [← z2, ← z3]; exact e4, HBAD.out rfl⟩
  | true =>
    obtain ⟨h1, h2, l, h3, h4, h5, h6⟩ := HGOOD.out rfl
    exact Or.inr ⟨_, _, l, HFB rfl, h1, h2, h3, h4, (OwI.mono (row7_below h5 b14) (by omega)), (OwI.mono (row7_below h6 b14) (by omega))⟩
end Go.Proofs.Ytofopfjmcbgfjaa
