import Derived.Test.YtelcoihmiglceaaGreatCD10
import Derived.Test.YtelcoihmiglceaaGreatCG3
namespace Go.Proofs.YtelcoihmiglceaaGreat
open Go.RowKit

def rStep (l : List Int) : Rd Sk := (rNat l).and fun n r => (rNum 4 r).and fun k r => (rMany rVal k.toNat r).and fun ts r => (rNum 4 r).and fun m r => (rMany rNat m.toNat r).and fun us r => .ok ((n, ts, us), r)
theorem ownN_form8 {w : World} {base : Nat} {v : Value} {l : List Int} (h : OwnN w base v l) : ∃ a n cap, v = .slice a n cap := by
 obtain ⟨a, cap, rfl⟩ := h.form
 exact ⟨_, _, _, rfl⟩
theorem row_mono9 {e : TypeId} {w : World} {b b' n m : Nat} {v : Value} {xs : List Value} (h : w.ownsRow b e n v m xs) (hb : b' <= b) : w.ownsRow b' e n v m xs := by
 refine ⟨h.1, ?_⟩
 rcases h.2 with hn | ⟨g, cap, cur, hv, hbb, hg, rest⟩
 ·exact Or.inl hn
 ·exact Or.inr ⟨g, cap, cur, hv, Nat.le_trans hb hbb, hg, rest⟩
structure MS8 (B : Nat) (X : World) (s : St) : Prop where
 t : OwnT X B s.vv s.vals
 u : OwnN X B s.uv s.uses
 l : s.vals.length <= 4294967295 /\ s.uses.length <= 4294967295
theorem rMany_len9 {α : Type} {one : List Int -> Rd α} : ∀ {n : Nat} {l r : List Int} {ts : List α}, rMany one n l = .ok (ts, r) -> ts.length = n
 | 0, l, r, ts, h => by simp only [rMany, Except.ok.injEq, Prod.mk.injEq] at h; rw [<- h.1]; rfl
 | n + 1, l, r, ts, h => by
  unfold rMany at h
  rcases hr : one l with c | ⟨a, r1⟩
  ·rw [hr] at h; cases h
  ·rw [hr] at h
   simp only [Rd.and] at h
   rcases hr2 : rMany one n r1 with c | ⟨ts2, r2⟩
   ·rw [hr2] at h; cases h
   ·rw [hr2] at h
    have := rMany_len9 hr2
    cases h
    simp [this]
set_option maxRecDepth 20000 in
set_option maxHeartbeats 2000000 in
theorem step8_any (g : Nat) (l : List Int) (w : World) (h : RdS w g l) :
  Calls Tryz.prog 95 #[.pointer (some ⟨g, 0, none⟩)] w (RdP g w (fun x v w' => ∃ s : St, v = s.v /\ s.key = x /\ MS8 (w.heap.size + 1) w' s) (rStep l)) := by
 have hlt := h.lt
 have hmf : ∀ (fn : Fn) (first cap : Array Value) (w : World), (Instr.makeFunc fn first cap).run Tryz.prog w = .ok (.func fn first cap) w := fun _ _ _ _ => rfl
 have HB : Hid (Blk (w.alloc (.cells #[.int .i64 0, .slice none 0 0, .slice none 0 0] 66)) w.heap.size #[.int .i64 0, .slice none 0 0, .slice none 0 0] 66) := Blk.new _ _ _
 have HL : Hid (Bv g w.heap.size w (w.alloc (.cells #[.int .i64 0, .slice none 0 0, .slice none 0 0] 66))) := Bv.of (below1 _ _)
 have hN1 := natural_any g l (w.alloc (.cells #[.int .i64 0, .slice none 0 0, .slice none 0 0] 66)) (h.below (below1 _ _))
 clear h
 unfold rStep
 rcases hr1 : rNat l with c | ⟨n, r1⟩
 ·have HN1 : Hid (Calls Tryz.prog 133 #[.pointer (some ⟨g, 0, none⟩)] (w.alloc (.cells #[.int .i64 0, .slice none 0 0, .slice none 0 0] 66)) fun e w' => e = .panicked [pE c] /\ Bv g _ _ w') := RdP.err hN1 hr1
  clear hN1 hr1
  simp only [Rd.and]
  go_enter Tryz.func95, Tryz.ntmps95
  go_wp2_with (go_at_call 133; refine (HN1.out).mono ?_; rintro e wz ⟨rfl, hb⟩)
  exact ⟨rfl, HL.out.step hb, rfl⟩
 ·have HN1 : Hid (Calls Tryz.prog 133 #[.pointer (some ⟨g, 0, none⟩)] (w.alloc (.cells #[.int .i64 0, .slice none 0 0, .slice none 0 0] 66)) fun e w' => ∃ v, e = .returned v /\ (v = .int .i64 n) /\ RdS w' g r1 /\ Bv g _ _ w') := RdP.ok hN1 hr1
  clear hN1 hr1
  have hN2 := fun X hX => count8_any g r1 X hX
  simp only [Rd.and]
  rcases hr2 : rNum 4 r1 with c | ⟨k1, r2⟩
  ·have HN2 : Hid (∀ X, RdS X g r1 -> Calls Tryz.prog 93 #[.pointer (some ⟨g, 0, none⟩)] X fun e w' => e = .panicked [pE c] /\ Bv g X.heap.size X w') := fun X hX => RdP.err (hN2 X hX) hr2
   clear hN2 hr2
   go_enter Tryz.func95, Tryz.ntmps95
   go_wp2_with (first
    | (go_at_call 133; refine HN1.out.mono ?_; clear HN1; rintro e w1 ⟨v1, rfl, rfl, hs, hb⟩; have HB1 : Hid (Bv g w.heap.size w w1) := HL.out.step hb; have HS1 : Hid (RdS w1 g r1) := hs; have HK1 : Hid (Blk w1 w.heap.size _ _) := HB.out.bl hb (by omega); have hz1 := HB1.out.size; clear hs hb)
    | (go_at_call 93; refine (HN2.out _ HS1.out).mono ?_; rintro e wz ⟨rfl, hb⟩))
   exact ⟨rfl, HB1.out.step hb, rfl⟩
  ·have HN2 : Hid (∀ X, RdS X g r1 -> Calls Tryz.prog 93 #[.pointer (some ⟨g, 0, none⟩)] X fun e w' => ∃ v, e = .returned v /\ (v = .int .i64 k1 /\ 0 <= k1 /\ k1 <= 4294967295) /\ RdS w' g r2 /\ Bv g X.heap.size X w') := fun X hX => RdP.ok (hN2 X hX) hr2
   clear hN2 hr2
   have hN3 : ∀ X, RdS X g r2 -> 0 <= k1 -> k1 <= 4294967295 -> Calls Tryz.prog 125 #[.int .i64 k1, .func (.func 134) #[.pointer (some ⟨g, 0, none⟩)] #[]] X (RdP g X (fun ts v w' => OwnT w' X.heap.size v ts) (rMany rVal k1.toNat r2)) := fun X hX h0 h8 => by
    have := listV_any k1.toNat (by omega) g r2 X hX
    rwa [Int.toNat_of_nonneg h0] at this
   simp only
   rcases hr3 : rMany rVal k1.toNat r2 with c | ⟨ts, r3⟩
   ·have HN3 : Hid (∀ X, RdS X g r2 -> 0 <= k1 -> k1 <= 4294967295 -> Calls Tryz.prog 125 #[.int .i64 k1, .func (.func 134) #[.pointer (some ⟨g, 0, none⟩)] #[]] X fun e w' => e = .panicked [pE c] /\ Bv g X.heap.size X w') := fun X hX h0 h8 => RdP.err (hN3 X hX h0 h8) hr3
    clear hN3 hr3
    go_enter Tryz.func95, Tryz.ntmps95
    go_wp2_with (first
     | (go_at_call 133; refine HN1.out.mono ?_; clear HN1; rintro e w1 ⟨v1, rfl, rfl, hs, hb⟩; have HB1 : Hid (Bv g w.heap.size w w1) := HL.out.step hb; have HS1 : Hid (RdS w1 g r1) := hs; have HK1 : Hid (Blk w1 w.heap.size _ _) := HB.out.bl hb (by omega); have hz1 := HB1.out.size; clear hs hb)
     | (go_at_call 93; refine (HN2.out _ HS1.out).mono ?_; clear HN2; rintro e w2 ⟨v2, rfl, ⟨rfl, hq0, hq1⟩, hs, hb⟩; have HB2 : Hid (Bv g w.heap.size w w2) := HB1.out.step hb; have HS2 : Hid (RdS w2 g r2) := hs; have HK2 : Hid (Blk w2 w.heap.size _ _) := HK1.out.bl hb (by omega); have hz2 := HK2.out.lt; have HQ : Hid (0 <= k1 /\ k1 <= 4294967295) := ⟨hq0, hq1⟩; clear hs hb hq0 hq1)
     | (go_at_call 125; refine (HN3.out _ HS2.out HQ.out.1 HQ.out.2).mono ?_; rintro e wz ⟨rfl, hb⟩))
    exact ⟨rfl, HB2.out.step hb, rfl⟩
   ·have HN3 : Hid (∀ X, RdS X g r2 -> 0 <= k1 -> k1 <= 4294967295 -> Calls Tryz.prog 125 #[.int .i64 k1, .func (.func 134) #[.pointer (some ⟨g, 0, none⟩)] #[]] X fun e w' => ∃ v, e = .returned v /\ (OwnT w' X.heap.size v ts) /\ RdS w' g r3 /\ Bv g X.heap.size X w') := fun X hX h0 h8 => RdP.ok (hN3 X hX h0 h8) hr3
    have HT3 : Hid (ts.length = k1.toNat) := rMany_len9 hr3
    clear hN3 hr3
    have hN4 := fun X hX => count8_any g r3 X hX
    simp only
    rcases hr4 : rNum 4 r3 with c | ⟨k2, r4⟩
    ·have HN4 : Hid (∀ X, RdS X g r3 -> Calls Tryz.prog 93 #[.pointer (some ⟨g, 0, none⟩)] X fun e w' => e = .panicked [pE c] /\ Bv g X.heap.size X w') := fun X hX => RdP.err (hN4 X hX) hr4
     clear hN4 hr4
     go_enter Tryz.func95, Tryz.ntmps95
     go_wp2_with (first
      | (go_at_call 133; refine HN1.out.mono ?_; clear HN1; rintro e w1 ⟨v1, rfl, rfl, hs, hb⟩; have HB1 : Hid (Bv g w.heap.size w w1) := HL.out.step hb; have HS1 : Hid (RdS w1 g r1) := hs; have HK1 : Hid (Blk w1 w.heap.size _ _) := HB.out.bl hb (by omega); have hz1 := HB1.out.size; clear hs hb)
      | (go_at_call 93; refine (HN2.out _ HS1.out).mono ?_; clear HN2; rintro e w2 ⟨v2, rfl, ⟨rfl, hq0, hq1⟩, hs, hb⟩; have HB2 : Hid (Bv g w.heap.size w w2) := HB1.out.step hb; have HS2 : Hid (RdS w2 g r2) := hs; have HK2 : Hid (Blk w2 w.heap.size _ _) := HK1.out.bl hb (by omega); have hz2 := HK2.out.lt; have HQ : Hid (0 <= k1 /\ k1 <= 4294967295) := ⟨hq0, hq1⟩; clear hs hb hq0 hq1)
      | (go_at_call 125; refine (HN3.out _ HS2.out HQ.out.1 HQ.out.2).mono ?_; clear HN3; rintro e w3 ⟨v3, rfl, ho, hs, hb⟩; have HB3 : Hid (Bv g w.heap.size w w3) := HB2.out.step hb; have HS3 : Hid (RdS w3 g r3) := hs; have HK3 : Hid (Blk w3 w.heap.size _ _) := HK2.out.bl hb (by omega); have HO3 : Hid (OwnT w3 w2.heap.size v3 ts) := ho; obtain ⟨a1, a2, a3, rfl⟩ := ownT_form8 ho; have hz3 := HK3.out.lt; clear hs hb ho)
      | (go_at_call 93; refine (HN4.out _ HS3.out).mono ?_; rintro e wz ⟨rfl, hb⟩))
     exact ⟨rfl, HB3.out.step hb, rfl⟩
    ·have HN4 : Hid (∀ X, RdS X g r3 -> Calls Tryz.prog 93 #[.pointer (some ⟨g, 0, none⟩)] X fun e w' => ∃ v, e = .returned v /\ (v = .int .i64 k2 /\ 0 <= k2 /\ k2 <= 4294967295) /\ RdS w' g r4 /\ Bv g X.heap.size X w') := fun X hX => RdP.ok (hN4 X hX) hr4
     clear hN4 hr4
     have hN5 : ∀ X, RdS X g r4 -> 0 <= k2 -> k2 <= 4294967295 -> Calls Tryz.prog 135 #[.int .i64 k2, .func (.func 133) #[.pointer (some ⟨g, 0, none⟩)] #[]] X (RdP g X (fun ts v w' => OwnN w' X.heap.size v ts) (rMany rNat k2.toNat r4)) := fun X hX h0 h8 => by
      have := listN_any k2.toNat (by omega) g r4 X hX
      rwa [Int.toNat_of_nonneg h0] at this
     simp only
     rcases hr5 : rMany rNat k2.toNat r4 with c | ⟨us, r5⟩
     ·have HN5 : Hid (∀ X, RdS X g r4 -> 0 <= k2 -> k2 <= 4294967295 -> Calls Tryz.prog 135 #[.int .i64 k2, .func (.func 133) #[.pointer (some ⟨g, 0, none⟩)] #[]] X fun e w' => e = .panicked [pE c] /\ Bv g X.heap.size X w') := fun X hX h0 h8 => RdP.err (hN5 X hX h0 h8) hr5
      clear hN5 hr5
      go_enter Tryz.func95, Tryz.ntmps95
      go_wp2_with (first
       | (go_at_call 133; refine HN1.out.mono ?_; clear HN1; rintro e w1 ⟨v1, rfl, rfl, hs, hb⟩; have HB1 : Hid (Bv g w.heap.size w w1) := HL.out.step hb; have HS1 : Hid (RdS w1 g r1) := hs; have HK1 : Hid (Blk w1 w.heap.size _ _) := HB.out.bl hb (by omega); have hz1 := HB1.out.size; clear hs hb)
       | (go_at_call 93; refine (HN2.out _ HS1.out).mono ?_; clear HN2; rintro e w2 ⟨v2, rfl, ⟨rfl, hq0, hq1⟩, hs, hb⟩; have HB2 : Hid (Bv g w.heap.size w w2) := HB1.out.step hb; have HS2 : Hid (RdS w2 g r2) := hs; have HK2 : Hid (Blk w2 w.heap.size _ _) := HK1.out.bl hb (by omega); have hz2 := HK2.out.lt; have HQ : Hid (0 <= k1 /\ k1 <= 4294967295) := ⟨hq0, hq1⟩; clear hs hb hq0 hq1)
       | (go_at_call 125; refine (HN3.out _ HS2.out HQ.out.1 HQ.out.2).mono ?_; clear HN3; rintro e w3 ⟨v3, rfl, ho, hs, hb⟩; have HB3 : Hid (Bv g w.heap.size w w3) := HB2.out.step hb; have HS3 : Hid (RdS w3 g r3) := hs; have HK3 : Hid (Blk w3 w.heap.size _ _) := HK2.out.bl hb (by omega); have HO3 : Hid (OwnT w3 w2.heap.size v3 ts) := ho; obtain ⟨a1, a2, a3, rfl⟩ := ownT_form8 ho; have hz3 := HK3.out.lt; clear hs hb ho)
       | (go_at_call 93; refine (HN4.out _ HS3.out).mono ?_; clear HN4; rintro e w4 ⟨v4, rfl, ⟨rfl, hq0, hq1⟩, hs, hb⟩; have HB4 : Hid (Bv g w.heap.size w w4) := HB3.out.step hb; have HS4 : Hid (RdS w4 g r4) := hs; have HK4 : Hid (Blk w4 w.heap.size _ _) := HK3.out.bl hb (by omega); have HO4 : Hid (OwnT w4 w2.heap.size (.slice a1 a2 a3) ts) := row_blM HO3.out hb (by omega); have hz4 := HK4.out.lt; have HQ2 : Hid (0 <= k2 /\ k2 <= 4294967295) := ⟨hq0, hq1⟩; clear hs hb hq0 hq1)
       | (go_at_call 135; refine (HN5.out _ HS4.out HQ2.out.1 HQ2.out.2).mono ?_; rintro e wz ⟨rfl, hb⟩))
      exact ⟨rfl, HB4.out.step hb, rfl⟩
     ·have HN5 : Hid (∀ X, RdS X g r4 -> 0 <= k2 -> k2 <= 4294967295 -> Calls Tryz.prog 135 #[.int .i64 k2, .func (.func 133) #[.pointer (some ⟨g, 0, none⟩)] #[]] X fun e w' => ∃ v, e = .returned v /\ (OwnN w' X.heap.size v us) /\ RdS w' g r5 /\ Bv g X.heap.size X w') := fun X hX h0 h8 => RdP.ok (hN5 X hX h0 h8) hr5
      have HT5 : Hid (us.length = k2.toNat) := rMany_len9 hr5
      clear hN5 hr5
      go_enter Tryz.func95, Tryz.ntmps95
      go_wp2_with (first
       | (go_at_call 133; refine HN1.out.mono ?_; clear HN1; rintro e w1 ⟨v1, rfl, rfl, hs, hb⟩; have HB1 : Hid (Bv g w.heap.size w w1) := HL.out.step hb; have HS1 : Hid (RdS w1 g r1) := hs; have HK1 : Hid (Blk w1 w.heap.size _ _) := HB.out.bl hb (by omega); have hz1 := HB1.out.size; clear hs hb)
       | (go_at_call 93; refine (HN2.out _ HS1.out).mono ?_; clear HN2; rintro e w2 ⟨v2, rfl, ⟨rfl, hq0, hq1⟩, hs, hb⟩; have HB2 : Hid (Bv g w.heap.size w w2) := HB1.out.step hb; have HS2 : Hid (RdS w2 g r2) := hs; have HK2 : Hid (Blk w2 w.heap.size _ _) := HK1.out.bl hb (by omega); have hz2 := HK2.out.lt; have HQ : Hid (0 <= k1 /\ k1 <= 4294967295) := ⟨hq0, hq1⟩; clear hs hb hq0 hq1)
       | (go_at_call 125; refine (HN3.out _ HS2.out HQ.out.1 HQ.out.2).mono ?_; clear HN3; rintro e w3 ⟨v3, rfl, ho, hs, hb⟩; have HB3 : Hid (Bv g w.heap.size w w3) := HB2.out.step hb; have HS3 : Hid (RdS w3 g r3) := hs; have HK3 : Hid (Blk w3 w.heap.size _ _) := HK2.out.bl hb (by omega); have HO3 : Hid (OwnT w3 w2.heap.size v3 ts) := ho; obtain ⟨a1, a2, a3, rfl⟩ := ownT_form8 ho; have hz3 := HK3.out.lt; clear hs hb ho)
       | (go_at_call 93; refine (HN4.out _ HS3.out).mono ?_; clear HN4; rintro e w4 ⟨v4, rfl, ⟨rfl, hq0, hq1⟩, hs, hb⟩; have HB4 : Hid (Bv g w.heap.size w w4) := HB3.out.step hb; have HS4 : Hid (RdS w4 g r4) := hs; have HK4 : Hid (Blk w4 w.heap.size _ _) := HK3.out.bl hb (by omega); have HO4 : Hid (OwnT w4 w2.heap.size (.slice a1 a2 a3) ts) := row_blM HO3.out hb (by omega); have hz4 := HK4.out.lt; have HQ2 : Hid (0 <= k2 /\ k2 <= 4294967295) := ⟨hq0, hq1⟩; clear hs hb hq0 hq1)
       | (go_at_call 135; refine (HN5.out _ HS4.out HQ2.out.1 HQ2.out.2).mono ?_; clear HN5; rintro e w5 ⟨v5, rfl, ho, hs, hb⟩; have HB5 : Hid (Bv g w.heap.size w w5) := HB4.out.step hb; have HS5 : Hid (RdS w5 g r5) := hs; have HK5 : Hid (Blk w5 w.heap.size _ _) := HK4.out.bl hb (by omega); have HO5 : Hid (OwnT w5 w2.heap.size (.slice a1 a2 a3) ts) := row_blM HO4.out hb (by omega); have HU5 : Hid (OwnN w5 w4.heap.size v5 us) := ho; obtain ⟨b1, b2, b3, rfl⟩ := ownN_form8 ho; obtain ⟨q0, q1, q2, f0, f1, f2⟩ := three HK5.out; clear hs hb ho))
      have hk : Kt 66 w5 (((w5.setCell ⟨w.heap.size, 0, none⟩ (.int .i64 n)).setCell ⟨w.heap.size, 1, none⟩ (.slice a1 a2 a3)).setCell ⟨w.heap.size, 2, none⟩ (.slice b1 b2 b3)) := by
       have k1 := CBlk.set HK5.out 0 (.int .i64 n)
       have k2 := k1.set 1 (.slice a1 a2 a3)
       exact ((Kt.set HK5.out).trans (Kt.set k1)).trans (Kt.set k2)
      exact bodyPost_ret (v := .agg #[.int .i64 n, .slice a1 a2 a3, .slice b1 b2 b3]) (by simp [results, Tryz.results95, go_sem, q0, q1, q2]) rfl ⟨bset3V HB5.out (Nat.le_refl _), _, rfl, ⟨⟨n, ts, .slice a1 a2 a3, us, .slice b1 b2 b3⟩, rfl, rfl, row_mono9 (row_kt HO5.out hk (by decide)) (by omega), row_mono9 (row_kt HU5.out hk (by decide)) (by omega), by have h1 := HT3.out; have h2 := HT5.out; have h3 := HQ.out; have h4 := HQ2.out; simp only; omega⟩, ((HS5.out.off hlt).off hlt).off hlt⟩
end Go.Proofs.YtelcoihmiglceaaGreat
