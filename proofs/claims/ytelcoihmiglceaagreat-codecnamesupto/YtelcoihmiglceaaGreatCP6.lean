/-
  hearsayref06.Beyond: it answers; hearsayref03: natural, MadeAll.
-/
import Derived.Test.YtelcoihmiglceaaGreatCP4
import Derived.Test.YtelcoihmiglceaaGreatLE2
namespace Go.Proofs.YtelcoihmiglceaaGreat
open Go.RowKit

/-- Some answer, yes or no. -/
def YesNo (e : Ending) : Prop := ∃ b, e = .returned (.bool b)
set_option maxRecDepth 20000 in
set_option maxHeartbeats 1000000 in
theorem beyond_any (C R : List Cm) (S : List St) (cv rv sv : Value) (ba : Option Addr) (bn bc : Nat) (w : World) (hC : CsP w cv C) (hR : CsP w rv R) (hS : SsP w sv S) (hl0 : C.length ≤ 1000000000000) (hl1 : R.length ≤ 1000000000000) (hl2 : S.length ≤ 1000000000000) :
    Calls Tryz.prog 6 #[cv, .agg #[rv, sv], .slice ba bn bc] w fun e w' => YesNo e ∧ Below w.heap.size w w' := by
  have HPC : Hid (∀ (n : Int) (X : World), Below w.heap.size w X → Calls Tryz.prog 25 #[.int .i64 n, cv] X fun e w' => (∃ m, e = .returned (.int .i64 m)) ∧ Below X.heap.size X w') := fun n X hX => pclauses_any n C cv X (hC.later hX) hl0
  have HPR : Hid (∀ (n : Int) (X : World), Below w.heap.size w X → Calls Tryz.prog 25 #[.int .i64 n, rv] X fun e w' => (∃ m, e = .returned (.int .i64 m)) ∧ Below X.heap.size X w') := fun n X hX => pclauses_any n R rv X (hR.later hX) hl1
  have HS : Hid (SsP w sv S) := hS
  obtain ⟨ca, cc, rfl⟩ := hC.form
  obtain ⟨ra, rc, rfl⟩ := hR.form
  obtain ⟨sa, sc, rfl⟩ := hS.form
  have HX : Hid (CBlk (w.alloc (.cells #[.slice ra R.length rc, .slice sa S.length sc] 35)) w.heap.size #[.slice ra R.length rc, .slice sa S.length sc] 35) := CBlk.new _ _ _
  have HW0 : Hid (Below w.heap.size w (w.alloc (.cells #[.slice ra R.length rc, .slice sa S.length sc] 35))) := below1 _ _
  clear hC hR hS
  go_enter Tryz.func6, Tryz.ntmps6
  go_wp2_with (first
    | (go_at_call 25; refine (HPC.out _ _ (below1 _ _)).mono ?_; clear HPC; rintro e w1 ⟨⟨n1, rfl⟩, hb⟩; have HX1 : Hid (CBlk w1 w.heap.size _ 35) := HX.out.later hb; have HW1 : Hid (Below w.heap.size w w1) := below_step HW0.out hb; obtain ⟨c0, c1⟩ := ctwo HX1.out; clear hb HX HW0)
    | (go_at_call 25; refine (HPR.out _ _ HW1.out).mono ?_; clear HPR; rintro e w2 ⟨⟨n2, rfl⟩, hb⟩; have HX2 : Hid (CBlk w2 w.heap.size _ 35) := HX1.out.later hb; have HW2 : Hid (Below w.heap.size w w2) := below_step HW1.out hb; clear c0 c1; obtain ⟨c0, c1⟩ := ctwo HX2.out; clear hb HX1 HW1))
  clear c0 c1
  go_loopg [7, 8] S.length (fun g u i wr => ∃ (j : Nat) (m : Int), j + g = S.length ∧ i = .int .i64 j ∧ u = .int .i64 m ∧ Below w2.heap.size w2 wr)
  case atStart => exact ⟨0, _, by omega, rfl, rfl, Below.refl _ _⟩
  case round =>
    obtain ⟨j, m, hj, rfl, rfl, hb⟩ := hrel
    have HB : Hid (Below w2.heap.size w2 wr) := hb
    have HX3 : Hid (CBlk wr w.heap.size _ 35) := HX2.out.later hb
    obtain ⟨c0, c1⟩ := ctwo HX3.out
    clear hb
    cases gk with
    | succ g =>
      have hlt : (j : Int) < (S.length : Int) := by omega
      have j0 : (0 : Int) ≤ (j : Int) := by omega
      by_cases hm : m ≤ 2147483647
      · obtain ⟨t, ht⟩ : ∃ t, S[j]? = some t := ⟨_, List.getElem?_eq_getElem (by omega)⟩
        obtain ⟨b, o, rfl, hbs, hr, hok⟩ := ((HS.out.later HW2.out).later HB.out).at_ ht
        obtain ⟨d0, d1, d2⟩ := hr.three ht
        obtain ⟨⟨a1, cap1, x1⟩, ⟨a2, cap2, x2⟩, l1, l2⟩ := hok.shape
        have HPT : Hid (∀ (k : Int) (X : World), Below wr.heap.size wr X → Calls Tryz.prog 26 #[.int .i64 k, t.vv] X fun e w' => e = .returned (.int .i64 (ptF k t.vals)) ∧ w' = X) := fun k X hX => pterms_any k _ _ X (hok.t.later hX)
        obtain ⟨tr, tt, tv, tu, tw⟩ := t
        simp only at d0 d1 d2 x1 x2 HPT l1 l2
        subst x1 x2
        clear hr hok ht
        go_wp2
        go_quiet (first | (go_at_call 26; refine Calls.quiet_of_same (HPT.out _ _ (below_drewN (Below.refl _ _) _))))
        go_wp2
        go_roundg g
        case measure => omega
        case rel => exact ⟨j + 1, _, by omega, by go_num, rfl, below_drewN HB.out _⟩
      · go_wp2
        go_ret
        exact ⟨⟨_, rfl⟩, below_step HW2.out HB.out⟩
    | zero =>
      obtain rfl : j = S.length := by omega
      have hz : ¬ ((S.length : Int) < (S.length : Int)) := by omega
      go_wp2
      go_ret
      exact ⟨⟨_, rfl⟩, below_step HW2.out HB.out⟩
/-- A list of clauses that Made made, in memory of the call's own. -/
structure OM (B : Nat) (X : World) (v : Value) (l : List Cm) : Prop where
  o : OwnC X B v l
  m : ∀ c ∈ l, MCl B X c
theorem MCl.kt {t : TypeId} {B : Nat} {X X' : World} {d : Cm} (h : MCl B X d) (hk : Kt t X X') (h1 : 23 ≠ t) (h2 : 26 ≠ t) (h3 : 70 ≠ t) : MCl B X' d :=
  ⟨row_kt h.h hk h1, row_kt h.b hk h2, fun y hy => row_kt (h.x y hy) hk h1, row_kt h.t hk h3, h.s⟩
theorem OM.nil (B : Nat) (X : World) : OM B X (.slice none 0 0) [] := ⟨OwnC.nil _ _, fun c hc => by cases hc⟩
theorem OM.later {B : Nat} {X X' : World} {v : Value} {l : List Cm} (h : OM B X v l) (hb : Below X.heap.size X X') : OM B X' v l := ⟨h.o.later hb, fun c hc => (h.m c hc).later hb⟩
theorem OM.kt {t : TypeId} {B : Nat} {X X' : World} {v : Value} {l : List Cm} (h : OM B X v l) (hk : Kt t X X') (h0 : 30 ≠ t) (h1 : 23 ≠ t) (h2 : 26 ≠ t) (h3 : 70 ≠ t) : OM B X' v l := ⟨row_kt h.o hk h0, fun c hc => (h.m c hc).kt hk h1 h2 h3⟩
theorem OM.csp {B : Nat} {X : World} {v : Value} {l : List Cm} (h : OM B X v l) (hk : ∀ c ∈ l, KS c.key) : CsP X v l := by
  refine ⟨?_, fun c hc => (h.m c hc).ok8 (hk c hc)⟩
  rcases h.o.2 with ⟨rfl, hn⟩ | ⟨g, cap, cur, hv, -⟩
  · exact Or.inl ⟨rfl, List.length_eq_zero_iff.1 hn⟩
  · refine Or.inr ⟨⟨g, 0, none⟩, cap, hv, ?_⟩
    cases l with
    | nil => exact Or.inl rfl
    | cons c l =>
      have ho := h.o
      rw [hv] at ho
      obtain ⟨b, o, e, hr⟩ := ho.adr (j := 0) (c := c) rfl
      exact Or.inr ⟨b, o, Option.some.inj e, hr⟩
/-- What MadeAll leaves. -/
def MAP (w : World) (l : List Cm) (e : Ending) (w' : World) : Prop := ∃ (v' : Value) (m : List Cm), e = .returned v' ∧ m.map Cm.key = l.map (fun c => madeK c.key) ∧ OM w.heap.size w' v' m ∧ Below w.heap.size w w'
set_option maxRecDepth 20000 in
set_option maxHeartbeats 1000000 in
theorem madeAll_any (l : List Cm) (v : Value) (w : World) (h : CsP w v l) (hl : l.length ≤ 900000000000) :
    Calls Tryz.prog 11 #[v] w (MAP w l) := by
  have HC : Hid (CsP w v l) := h
  obtain ⟨ad, cap, rfl⟩ := h.form
  clear h
  go_enter Tryz.func11, Tryz.ntmps11
  go_wp2
  go_loopg [3, 4] l.length (fun g u i wr => ∃ (j : Nat) (m : List Cm), j + g = l.length ∧ i = .int .i64 j ∧ m.length = j ∧ m.map Cm.key = (l.take j).map (fun c => madeK c.key) ∧ OM w.heap.size wr u m ∧ Below w.heap.size w wr)
  case atStart => exact ⟨0, [], by omega, rfl, rfl, rfl, OM.nil _ _, Below.refl _ _⟩
  case round =>
    obtain ⟨j, m, hj, rfl, hml, hmk, ho, hb⟩ := hrel
    have HB : Hid (Below w.heap.size w wr) := hb
    have HO : Hid (OM w.heap.size wr u3 m) := ho
    have HMK : Hid (m.map Cm.key = (l.take j).map (fun c => madeK c.key)) := hmk
    have HML : Hid (m.length = j) := hml
    have hsz := hb.size
    clear hb hmk hml
    cases gk with
    | succ g =>
      have hlt : (j : Int) < (l.length : Int) := by omega
      have j0 : (0 : Int) ≤ (j : Int) := by omega
      obtain ⟨t, ht⟩ : ∃ t, l[j]? = some t := ⟨_, List.getElem?_eq_getElem (by omega)⟩
      obtain ⟨b, o, rfl, hbs, hr, hok⟩ := (HC.out.later HB.out).at_ ht
      have HS : Hid ((l.take (j + 1)).map (fun c => madeK c.key) = (l.take j).map (fun c => madeK c.key) ++ [madeK t.key]) := by show _ = _; rw [List.take_add_one, ht]; simp
      have HMD : Hid (∀ X : World, Below wr.heap.size wr X → Calls Tryz.prog 7 #[t.v] X fun e w' => ∃ d : Cm, e = .returned d.v ∧ d.key = madeK t.key ∧ MCl X.heap.size w' d ∧ Below X.heap.size X w') := fun X hX => made_any t X (hok.later hX)
      have hks : KS (madeK t.key) := (made_val nmP_ok t.key).ks
      obtain ⟨c0, c1, c2, c3, c4, c5, c6⟩ := hr.seven ht
      obtain ⟨⟨a1, n1, cap1, x1⟩, ⟨a2, cap2, x2⟩, ⟨a3, cap3, x3⟩, -, -⟩ := hok.shape
      generalize madeK t.key = K at *
      obtain ⟨⟨⟨⟨tk, tn, ts⟩, tm, tl⟩, tv⟩, tb, tbv, tt, ttv⟩ := t
      simp only at c0 c1 c2 c3 c4 c5 c6 x1 x2 x3
      subst x1 x2 x3
      obtain ⟨u1, u2, rfl⟩ := ho.o.form
      clear hr hok ht ho
      go_wp2_with (first
        | (go_at_call 7; refine (HMD.out _ (Below.refl _ _)).mono ?_; clear HMD; rintro e w1 ⟨d, rfl, hdk, hdm, hb⟩; have HD : Hid (d.key = K ∧ MCl wr.heap.size w1 d ∧ d.ok w1) := ⟨hdk, hdm, hdm.ok8 (by rw [hdk]; exact hks)⟩; have HO1 : Hid (OM w.heap.size w1 (.slice u1 m.length u2) m) := HO.out.later hb; have HB1 : Hid (Below w.heap.size w w1) := below_step HB.out hb; have hz1 := HB1.out.size; obtain ⟨⟨y1, y2, y3, z1⟩, ⟨y4, y5, z2⟩, ⟨y6, y7, z3⟩, -, -⟩ := HD.out.2.2.shape; obtain ⟨⟨⟨⟨dk, dn, ds⟩, dm, dl⟩, dv⟩, db, dbv, dt, dtv⟩ := d; simp only at z1 z2 z3; subst z1 z2 z3; clear hdk hdm hb c0 c1 c2 c3 c4 c5 c6)
        | (at_builtin; refine capp_one rfl _ _ rfl w.heap.size (.slice u1 m.length u2) m rfl (HO1.out.o.later (below1 _ _)) w1.heap.size ⟨(⟨⟨dk, dn, ds⟩, dm, dl⟩, .slice y1 y2 y3), db, .slice y4 db.length y5, dt, .slice y6 dt.length y7⟩ rfl (CBlk.new _ _ _) HD.out.2.2 (by have := HML.out; omega) (by simp; omega) ?_; intro v2 w2 hown hb2 hg hv; have HG : Hid (Kt 30 w1 w2) := (Kt.of (below1 _ _)).trans (row_grown (HO1.out.o.later (below1 _ _)) hg); have HW2 : Hid (OwnC w2 w.heap.size v2 (m ++ [_])) := hown; have HB2 : Hid (Below w.heap.size w w2) := (below_step HB1.out (below1 _ _)).trans hb2; clear hown hb2 hg hv))
      go_roundg g
      case measure => omega
      case rel =>
        refine ⟨j + 1, m ++ [_], by omega, by go_num, by rw [List.length_append, HML.out]; rfl, ?_, ⟨HW2.out, fun c hc => ?_⟩, HB2.out⟩
        · rw [List.map_append, HMK.out, HS.out, List.map_cons, List.map_nil, HD.out.1]
        · rcases List.mem_append.1 hc with hc | hc
          · exact (HO1.out.m c hc).kt HG.out (by decide) (by decide) (by decide)
          · rw [List.mem_singleton] at hc; subst hc
            exact (HD.out.2.1.mono hsz).kt HG.out (by decide) (by decide) (by decide)
    | zero =>
      obtain rfl : j = l.length := by omega
      have hz : ¬ ((l.length : Int) < (l.length : Int)) := by omega
      clear ho
      go_wp2
      go_ret
      exact ⟨_, m, rfl, by rw [HMK.out, List.take_length], HO.out, HB.out⟩
end Go.Proofs.YtelcoihmiglceaaGreat
