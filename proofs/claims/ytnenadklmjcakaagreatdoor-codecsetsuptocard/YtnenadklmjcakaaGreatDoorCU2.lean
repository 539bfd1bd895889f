import Derived.Test.YtnenadklmjcakaaGreatDoorCL1
import Derived.Test.YtnenadklmjcakaaGreatDoorCU1
import Derived.Test.YtnenadklmjcakaaGreatDoorCP2
import Derived.Test.YtnenadklmjcakaaGreatDoorSD12
import Derived.Test.YtnenadklmjcakaaGreatDoorSD15
import Derived.Test.YtnenadklmjcakaaGreatDoorSD5
import Derived.Deep.RegionHeld3
import Derived.Test.YtnenadklmjcakaaGreatDoorCH3
import Derived.Test.YtnenadklmjcakaaGreatDoorCM0
namespace Go.Proofs.YtnenadklmjcakaaGreatDoor
open Go.RowKit

theorem qClause_ok {B : List Int} (hy : byt B) {s : Qs} (h : s.er = 0) (hs : s.at_ <= B.length) (h2 : (qClause B s).2.er = 0) : chkK (qClause B s).1 = 0 := by
 have ht := tog_clause hy h hs
 rcases hr : rClause (B.drop s.at_) with c | ⟨a, r⟩
 ·rw [hr] at ht
  exact absurd (ht.1.symm.trans h2) ht.2.1
 ·rw [hr] at ht
  rw [ht.1]
  exact (iv_clause _ a r (fun x hx => hy x (List.mem_of_mem_drop hx)) hr).2.2.1
theorem knd_len9 {t : Tm} (h : knd t) : t.s.size <= maxLen := by have := h.2; unfold maxLen; omega
theorem chk_szs9 {c : Cm} (h : c.chk = 0) : c.szs := by
 obtain ⟨h1, h2, -, -⟩ := chk_fit h
 have ha : ∀ a : At, Fit a -> a.name.size <= maxLen /\ ∀ t ∈ a.pl, t.s.size <= maxLen := fun a ha => ⟨by have := ha.nm; unfold maxLen; omega, fun t ht => by
  unfold At.pl at ht
  rcases List.mem_cons.1 ht with rfl | ht
  ·exact knd_len9 ha.by_
  ·exact knd_len9 (ha.args t ht)⟩
 refine ⟨ha _ (h1 c.head.1 (List.mem_cons_self ..)), fun x hx => ha _ (h1 x.1 (List.mem_cons_of_mem _ (by show x.1 ∈ fsts c.body; unfold fsts; exact List.mem_map_of_mem hx))), fun t ht => ?_⟩
 have := h2 t ht
 exact ⟨knd_len9 this.l, knd_len9 this.r⟩
structure OCQ (X : World) (B : Nat) (v : Value) (l : List Cm) : Prop where
 o : OwnC X B v l
 m : ∀ c ∈ l, MC8 B X c /\ SZ c.key
theorem OCQ.nil (X : World) (B : Nat) : OCQ X B (.slice none 0 0) [] := ⟨OwnC.nil _ _, fun c hc => by cases hc⟩
theorem OCQ.blM {g B : Nat} {X X' : World} {v : Value} {l : List Cm} (h : OCQ X B v l) (hb : Bv g X.heap.size X X') (hg : g < B) : OCQ X' B v l := ⟨row_blM h.o hb hg, fun c hc => ⟨(h.m c hc).1.blM hb hg, (h.m c hc).2⟩⟩
theorem OCQ.add {B : Nat} {X X' : World} {v v' : Value} {l : List Cm} {c : Cm} (h : OCQ X B v l) (ho : OwnC X' B v' (l ++ [c])) (hk : Kt 58 X X') (hc : MC8 B X c /\ SZ c.key) : OCQ X' B v' (l ++ [c]) :=
 ⟨ho, fun d hd => by
  rcases List.mem_append.1 hd with hd | hd
  ·exact ⟨(h.m d hd).1.kt hk (by decide) (by decide) (by decide), (h.m d hd).2⟩
  ·rw [List.mem_singleton] at hd; subst hd; exact ⟨hc.1.kt hk (by decide) (by decide) (by decide), hc.2⟩⟩
theorem OCQ.csp {B : Nat} {X : World} {v : Value} {l : List Cm} (h : OCQ X B v l) : CsP X v l := h.o.csp2 (fun c hc => (h.m c hc).1.okS (h.m c hc).2)
def RQS (w : World) (r : Except Int (List Ck)) (e : Ending) (w' : World) : Prop := Below w.heap.size w w' /\ ∃ (u : Value) (L : List Cm) (er : Int), e = .returned (.tuple #[u, .int .i64 er]) /\ CsP w' u L /\ match r with
 | .ok K => L.map Cm.key = K /\ er = 0
 | .error d => L = [] /\ er = d
theorem Blk.bl9 {g k : Nat} {c : Array Value} {t : TypeId} {w w' : World} (h : CBlk w k c t) (hb : Bv g w.heap.size w w') (hk : k ≠ g) : CBlk w' k c t := (hb.block k h.lt hk).trans h
set_option maxRecDepth 20000 in
set_option maxHeartbeats 1600000 in
theorem rreadSet_any (v : Value) (B : List Int) (w : World) (h : Br w v B) :
  Calls Tryz.prog 12 #[v] w (RQS w (rWhole rSet B)) := by
 have HY : Hid (byt B) := h.1
 have HR : Hid (RqS (w.alloc (.cells #[v, .int .i64 0, .int .i64 0] 74)) w.heap.size B ⟨0, 0⟩) := h.rq (Below.refl _ _)
 have HL : Hid (Below w.heap.size w (w.alloc (.cells #[v, .int .i64 0, .int .i64 0] 74))) := below1 _ _
 obtain ⟨n, hn, hn4⟩ := qNum4 h.1 ⟨0, 0⟩
 have HN1 : Hid (∀ X : World, RqS X w.heap.size B ⟨0, 0⟩ -> Calls Tryz.prog 37 #[.pointer (some ⟨w.heap.size, 0, none⟩), .int .i64 4] X fun e w' => e = .returned (.int .u64 (n : Int)) /\ RqS w' w.heap.size B (qNum B 4 ⟨0, 0⟩).2 /\ Bv w.heap.size X.heap.size X w') := fun X hX => by
  have := qnumber_any 4 (by omega) w.heap.size B ⟨0, 0⟩ X hX
  rwa [hn] at this
 have HNN : Hid ((qNum B 4 ⟨0, 0⟩).1.toNat = n) := by show _ = _; rw [hn]; omega
 obtain ⟨s0, hs0⟩ : ∃ s, (qNum B 4 ⟨0, 0⟩).2 = s := ⟨_, rfl⟩
 rw [hs0] at HN1
 have HS00 : Hid ((qNum B 4 ⟨0, 0⟩).2 = s0) := hs0
 obtain ⟨a, cap, rfl⟩ : ∃ a cap, v = .slice a B.length cap := by obtain ⟨-, a, cap, e, -⟩ := h; exact ⟨a, cap, e⟩
 clear h hn hs0
 have hnw : IntKind.i64.wrap (n : Int) = (n : Int) := by rw [IntKind.wrap_i64]; omega
 go_enter Tryz.func12, Tryz.ntmps12
 go_upto_region 4 with (go_at_call 37; refine (HN1.out _ HR.out).mono ?_; clear HN1; rintro e w0 ⟨rfl, hs, hb⟩; have HS0 : Hid (RqS w0 w.heap.size B s0) := hs; have HB0 : Hid (Below w.heap.size w w0) := HL.out.trans ((hb.mono HL.out.size).below (Nat.le_refl _)); clear hs hb)
 clear HR HL
 go_wp2_with fail
 go_loopg [6, 7] n (fun k u i wr => ∃ (j : Nat) (L : List Cm) (s : Qs), j + k = n /\ i = .int .i64 (j : Int) /\ L.length = j /\ OCQ wr (w.heap.size + 1) u L /\ RqS wr w.heap.size B s /\ Below w.heap.size w wr /\ QUp B n s0 k (L.map Cm.key) s /\ (s.er = 0 -> ∀ c ∈ L, c.chk = 0))
 case atStart => exact ⟨0, [], s0, by omega, rfl, rfl, OCQ.nil _ _, HS0.out, HB0.out, QUp.start _ _ _, fun _ c hc => by cases hc⟩
 case round =>
  obtain ⟨j, L, s, hj, rfl, hts, ho, hs, hb, hq, hck⟩ := hrel
  obtain ⟨ua, uc, hu⟩ := ho.o.form
  rw [hts] at hu
  subst hu
  clear HS0 HB0
  have HO : Hid (OCQ wr (w.heap.size + 1) (.slice ua j uc) L) := ho
  have HS : Hid (RqS wr w.heap.size B s) := hs
  have HB : Hid (Below w.heap.size w wr) := hb
  have HQU : Hid (QUp B n s0 gk (L.map Cm.key) s) := hq
  have HCK : Hid (s.er = 0 -> ∀ c ∈ L, c.chk = 0) := hck
  have e2 : wr.cell? ⟨w.heap.size, 2, none⟩ = some (.int .i64 s.er) := by obtain ⟨sa, sc, -, -, e, -⟩ := hs.cells; exact e
  have hat : s.at_ <= B.length := by obtain ⟨-, h, -⟩ := hs; exact h
  clear ho hs hb hq hck
  by_cases hx : (j : Int) < (n : Int) /\ s.er = 0
  ·obtain ⟨i1, he⟩ := hx
   cases gk with
   | zero => omega
   | succ k =>
    rw [he] at e2
    have HE0 : Hid (s.er = 0) := he
    have HQN0 : Hid (QUp B n s0 k (L.map Cm.key ++ [(qClause B s).1]) (qRis (L.map Cm.key).getLast? (qClause B s).1 (qClause B s).2)) := HQU.out.next he
    have HOKC : Hid ((qClause B s).2.er = 0 -> chkK (qClause B s).1 = 0) := fun h2 => qClause_ok HY.out he hat h2
    have HSZ0 : Hid (SZ (qClause B s).1) := qClause_sz HY.out s
    have HTM : Hid (∀ X : World, RqS X w.heap.size B s -> Calls Tryz.prog 38 #[.pointer (some ⟨w.heap.size, 0, none⟩)] X fun e w' => ∃ c : Cm, e = .returned c.v /\ c.key = (qClause B s).1 /\ RqS w' w.heap.size B (qClause B s).2 /\ MC8 X.heap.size w' c /\ Bv w.heap.size X.heap.size X w') := fun X hX => qclause_any w.heap.size B s X hX
    obtain ⟨⟨t, s1⟩, hq9⟩ : ∃ q, qClause B s = q := ⟨_, rfl⟩
    rw [hq9] at HQN0 HOKC HSZ0 HTM
    simp only at HQN0 HOKC HSZ0 HTM
    have hsz := HB.out.size
    have hwl := HS.out.lt
    clear hq9 he HQU hat
    go_upto_region 8 with (go_at_call 38; refine (HTM.out _ HS.out).mono ?_; rintro e w1 ⟨c, rfl, hck, hs1, hmc, hb1⟩; obtain ⟨⟨c1, c2, c3, y1⟩, ⟨c4, c6, y2⟩, ⟨c7, c9, y3⟩, -, -⟩ := (hmc.okS (by rw [hck]; exact HSZ0.out)).shape; obtain ⟨⟨⟨⟨ck, cn, cs⟩, cm, cl⟩, cv⟩, cb, cbv, ct, ctv⟩ := c; simp only at y1 y2 y3; obtain ⟨c5, hc5⟩ : ∃ n, cb.length = n := ⟨_, rfl⟩; obtain ⟨c8, hc8⟩ : ∃ n, ct.length = n := ⟨_, rfl⟩; rw [hc5] at y2; rw [hc8] at y3; subst y1 y2 y3; clear hc5 hc8; have HKT : Hid (Cm.key (⟨(⟨⟨ck, cn, cs⟩, cm, cl⟩, .slice c1 c2 c3), cb, .slice c4 c5 c6, ct, .slice c7 c8 c9⟩ : Cm) = t) := hck; have HB1 : Hid (Below w.heap.size w w1) := HB.out.trans ((hb1.mono HB.out.size).below (Nat.le_refl _)); have HSX : Hid (RqS (w1.alloc (.cells #[.int .i64 ck, .int .i64 cn, .string cs, .string cm, .slice c1 c2 c3, .slice c4 c5 c6, .slice c7 c8 c9] 58)) w.heap.size B s1) := hs1.below (below1 _ _); have HOX : Hid (OCQ (w1.alloc (.cells #[.int .i64 ck, .int .i64 cn, .string cs, .string cm, .slice c1 c2 c3, .slice c4 c5 c6, .slice c7 c8 c9] 58)) (w.heap.size + 1) (.slice ua j uc) L) := (HO.out.blM hb1 (Nat.lt_succ_self _)).blM (Bv.of (below1 _ _)) (Nat.lt_succ_self _); have HTX : Hid (MC8 (w.heap.size + 1) (w1.alloc (.cells #[.int .i64 ck, .int .i64 cn, .string cs, .string cm, .slice c1 c2 c3, .slice c4 c5 c6, .slice c7 c8 c9] 58)) (⟨(⟨⟨ck, cn, cs⟩, cm, cl⟩, .slice c1 c2 c3), cb, .slice c4 c5 c6, ct, .slice c7 c8 c9⟩ : Cm) /\ SZ (Cm.key (⟨(⟨⟨ck, cn, cs⟩, cm, cl⟩, .slice c1 c2 c3), cb, .slice c4 c5 c6, ct, .slice c7 c8 c9⟩ : Cm))) := ⟨(hmc.mono hwl).later (below1 _ _), (by rw [hck]; exact HSZ0.out)⟩; have BT : Hid (CBlk (w1.alloc (.cells #[.int .i64 ck, .int .i64 cn, .string cs, .string cm, .slice c1 c2 c3, .slice c4 c5 c6, .slice c7 c8 c9] 58)) w1.heap.size #[.int .i64 ck, .int .i64 cn, .string cs, .string cm, .slice c1 c2 c3, .slice c4 c5 c6, .slice c7 c8 c9] 58) := CBlk.new _ _ _; have HNG : Hid (w1.heap.size ≠ w.heap.size) := (by have := hs1.lt; show _ ≠ _; omega); have HSB : Hid (w.heap.size + 1 <= (w1.alloc (.cells #[.int .i64 ck, .int .i64 cn, .string cs, .string cm, .slice c1 c2 c3, .slice c4 c5 c6, .slice c7 c8 c9] 58)).heap.size) := (by have := hs1.lt; show _ <= _; simp; omega); have HBX : Hid (Below w.heap.size w (w1.alloc (.cells #[.int .i64 ck, .int .i64 cn, .string cs, .string cm, .slice c1 c2 c3, .slice c4 c5 c6, .slice c7 c8 c9] 58))) := below_step HB1.out (below1 _ _); clear hck hs1 hmc hb1 e2)
    clear HO HS HB HB1 HTM HSZ0
    revert HSX HOX HTX BT HSB HBX
    generalize w1.alloc (.cells #[.int .i64 ck, .int .i64 cn, .string cs, .string cm, .slice c1 c2 c3, .slice c4 c5 c6, .slice c7 c8 c9] 58) = X
    intro HSX HOX HTX BT HSB HBX
    have HER : Hid (∀ w', Below X.heap.size X w' -> w'.cell? ⟨w.heap.size, 2, none⟩ = some (.int .i64 s1.er)) := fun w' hw' => by obtain ⟨sa, sc, -, -, e, -⟩ := (HSX.out.below hw').cells; exact e
    have HKL : Hid (QUp B n s0 k ((L ++ [(⟨(⟨⟨ck, cn, cs⟩, cm, cl⟩, .slice c1 c2 c3), cb, .slice c4 c5 c6, ct, .slice c7 c8 c9⟩ : Cm)]).map Cm.key) (qRis (L.map Cm.key).getLast? t s1)) := by show QUp _ _ _ _ _ _; rw [List.map_append, List.map_cons, List.map_nil, HKT.out]; exact HQN0.out
    clear HQN0
    by_cases he1 : s1.er = 0
    ·have HCH1 : Hid (∀ c ∈ L ++ [(⟨(⟨⟨ck, cn, cs⟩, cm, cl⟩, .slice c1 c2 c3), cb, .slice c4 c5 c6, ct, .slice c7 c8 c9⟩ : Cm)], c.chk = 0) := fun c hc => by
      rcases List.mem_append.1 hc with hc | hc
      ·exact HCK.out HE0.out c hc
      ·rw [List.mem_singleton] at hc; subst hc; rw [chk_keyK, HKT.out]; exact HOKC.out he1
     rw [he1] at HER
     have HE1 : Hid (s1.er = 0) := he1
     clear he1
     rcases Nat.eq_zero_or_pos j with hj0 | hjp
     ·have hL : L = [] := List.eq_nil_of_length_eq_zero (by omega)
      have HQN : Hid (QUp B n s0 k ((L ++ [(⟨(⟨⟨ck, cn, cs⟩, cm, cl⟩, .slice c1 c2 c3), cb, .slice c4 c5 c6, ct, .slice c7 c8 c9⟩ : Cm)]).map Cm.key) s1) := by have := HKL.out; rw [show qRis (L.map Cm.key).getLast? t s1 = s1 from if_neg (fun e => by rw [hL] at e; cases e.2)] at this; exact this
      have HCH : Hid (s1.er = 0 -> ∀ c ∈ L ++ [(⟨(⟨⟨ck, cn, cs⟩, cm, cl⟩, .slice c1 c2 c3), cb, .slice c4 c5 c6, ct, .slice c7 c8 c9⟩ : Cm)], c.chk = 0) := fun _ => HCH1.out
      have iz : (j : Int) = 0 := by omega
      clear hL
      refine wp_region_held_drew (S := fun w' => Below X.heap.size X w') (by kernel_rfl) (Below.refl _ _).drew (fun hH => ?_)
      revert hH
      generalize X.drew = V
      intro hH
      refine wTk 0 (.pointer (some ⟨w.heap.size, 0, none⟩)) rfl (by kernel_rfl) (fun _ _ _ h => h) (Or.inl ⟨by rfl, fun w' _ => by go_simp⟩) hH ?_
      simp only [wA8, wB8, wC8, wD8]
      refine wTk 1 (.pointer (some ⟨w.heap.size, 0, none⟩)) rfl (by kernel_rfl) (fun _ _ _ h => h) (Or.inl ⟨by rfl, fun w' _ => by go_simp⟩) hH ?_
      simp only [wA8, wB8, wC8, wD8]
      refine wTk 2 (.pointer (some ⟨w.heap.size, 2, none⟩)) rfl (by kernel_rfl) (fun _ _ _ h => h) (Or.inl ⟨by rfl, fun w' _ => by go_simp⟩) hH ?_
      simp only [wA8, wB8, wC8, wD8]
      refine wTk 3 (.int .i64 0) rfl (by kernel_rfl) (fun _ _ _ h => h) (Or.inl ⟨by rfl, fun w' h => by have z := HER.out w' h; clear h; go_simp⟩) hH ?_
      simp only [wA8, wB8, wC8, wD8]
      refine wTk 4 (.bool true) rfl (by kernel_rfl) (fun _ _ _ h => h) (Or.inl ⟨by rfl, fun w' _ => by go_simp⟩) hH ?_
      simp only [wA8, wB8, wC8, wD8]
      refine wTk 5 (.bool true) rfl (by kernel_rfl) (fun _ _ _ h => h) (Or.inl ⟨by rfl, fun w' _ => by go_simp⟩) hH ?_
      simp only [wA8, wB8, wC8, wD8]
      refine wTk 6 (.int .i64 (j : Int)) rfl (by kernel_rfl) (fun _ _ _ h => h) (Or.inl ⟨by rfl, fun w' _ => by go_simp⟩) hH ?_
      simp only [wA8, wB8, wC8, wD8]
      refine wTk 7 (.bool false) rfl (by kernel_rfl) (fun _ _ _ h => h) (Or.inl ⟨by rfl, fun w' _ => by go_simp⟩) hH ?_
      simp only [wA8, wB8, wC8, wD8]
      refine wTk 8 (.bool false) rfl (by kernel_rfl) (fun _ _ _ h => h) (Or.inl ⟨by rfl, fun w' _ => by go_simp⟩) hH ?_
      simp only [wA8, wB8, wC8, wD8]
      refine wTk 9 (.bool false) rfl (by kernel_rfl) (fun _ _ _ h => h) (Or.inl ⟨by rfl, fun w' _ => by go_simp⟩) hH ?_
      simp only [wA8, wB8, wC8, wD8]
      refine wTk 10 (undef) rfl (by kernel_rfl) (fun _ _ _ h => h) (Or.inr ⟨by rfl, rfl⟩) hH ?_
      simp only [wA8, wB8, wC8, wD8]
      refine wTk 11 (undef) rfl (by kernel_rfl) (fun _ _ _ h => h) (Or.inr ⟨by rfl, rfl⟩) hH ?_
      simp only [wA8, wB8, wC8, wD8]
      refine wTk 12 (undef) rfl (by kernel_rfl) (fun _ _ _ h => h) (Or.inr ⟨by rfl, rfl⟩) hH ?_
      simp only [wA8, wB8, wC8, wD8]
      refine wTk 13 (undef) rfl (by kernel_rfl) (fun _ _ _ h => h) (Or.inr ⟨by rfl, rfl⟩) hH ?_
      simp only [wA8, wB8, wC8, wD8]
      refine wTk 14 (undef) rfl (by kernel_rfl) (fun _ _ _ h => h) (Or.inr ⟨by rfl, rfl⟩) hH ?_
      simp only [wA8, wB8, wC8, wD8]
      refine wTk 15 (undef) rfl (by kernel_rfl) (fun _ _ _ h => h) (Or.inr ⟨by rfl, rfl⟩) hH ?_
      simp only [wA8, wB8, wC8, wD8]
      refine wTk 16 (undef) rfl (by kernel_rfl) (fun _ _ _ h => h) (Or.inr ⟨by rfl, rfl⟩) hH ?_
      simp only [wA8, wB8, wC8, wD8]
      refine wTk 17 (undef) rfl (by kernel_rfl) (fun _ _ _ h => h) (Or.inr ⟨by rfl, rfl⟩) hH ?_
      simp only [wA8, wB8, wC8, wD8]
      refine wTk 18 (.bool false) rfl (by kernel_rfl) (fun _ _ _ h => h) (Or.inl ⟨by rfl, fun w' _ => by go_simp⟩) hH ?_
      simp only [wA8, wB8, wC8, wD8]
      refine wpAnyH_done (by kernel_rfl) ?_ _
      have HSZ : Hid (RqS V w.heap.size B s1) := HSX.out.below hH
      have HXZ : Hid (Bv w.heap.size X.heap.size X V) := Bv.of hH
      clear hH
      have BZ : Hid (CBlk V w1.heap.size #[.int .i64 ck, .int .i64 cn, .string cs, .string cm, .slice c1 c2 c3, .slice c4 c5 c6, .slice c7 c8 c9] 58) := Blk.bl9 BT.out HXZ.out HNG.out
      have HOZ : Hid (OCQ V (w.heap.size + 1) (.slice ua j uc) L) := HOX.out.blM HXZ.out (Nat.lt_succ_self _)
      have HTZ : Hid (MC8 (w.heap.size + 1) V (⟨(⟨⟨ck, cn, cs⟩, cm, cl⟩, .slice c1 c2 c3), cb, .slice c4 c5 c6, ct, .slice c7 c8 c9⟩ : Cm) /\ SZ (Cm.key (⟨(⟨⟨ck, cn, cs⟩, cm, cl⟩, .slice c1 c2 c3), cb, .slice c4 c5 c6, ct, .slice c7 c8 c9⟩ : Cm))) := ⟨HTX.out.1.blM HXZ.out (Nat.lt_succ_self _), HTX.out.2⟩
      have hzZ : w.heap.size + 1 <= V.heap.size := Nat.le_trans HSB.out HXZ.out.size
      obtain ⟨x0, x1, x2, x3, x4, x5, x6⟩ := cseven BZ.out
      go_wp2_with (at_builtin; refine capp_one rfl _ _ rfl (w.heap.size + 1) (.slice ua j uc) L rfl (HOZ.out.o.later (below1 _ _)) V.heap.size (⟨(⟨⟨ck, cn, cs⟩, cm, cl⟩, .slice c1 c2 c3), cb, .slice c4 c5 c6, ct, .slice c7 c8 c9⟩ : Cm) rfl (show CBlk _ _ (Cm.cs (⟨(⟨⟨ck, cn, cs⟩, cm, cl⟩, .slice c1 c2 c3), cb, .slice c4 c5 c6, ct, .slice c7 c8 c9⟩ : Cm)) _ from CBlk.new _ _ _) (W := V) (HTZ.out.1.okS HTZ.out.2) (by omega) (by simp; omega) ?_; intro v2 w2 ho2 hb2 hg2 hk2; have HO2 : Hid (OCQ w2 (w.heap.size + 1) v2 (L ++ [(⟨(⟨⟨ck, cn, cs⟩, cm, cl⟩, .slice c1 c2 c3), cb, .slice c4 c5 c6, ct, .slice c7 c8 c9⟩ : Cm)])) := HOZ.out.add ho2 ((Kt.of (below1 _ _)).trans (row_grown (HOZ.out.o.later (below1 _ _)) hg2)) HTZ.out; have HB2 : Hid (Below (w.heap.size + 1) V w2) := ((below1 _ _).mono (by omega)).trans hb2; clear ho2 hb2 hg2 hk2)
      go_roundg k
      case measure => omega
      case rel => exact ⟨j + 1, L ++ [(⟨(⟨⟨ck, cn, cs⟩, cm, cl⟩, .slice c1 c2 c3), cb, .slice c4 c5 c6, ct, .slice c7 c8 c9⟩ : Cm)], s1, by omega, by go_num, by simp; omega, HO2.out, HSZ.out.low HB2.out (Nat.lt_succ_self _), (HBX.out.trans ((HXZ.out.mono (Nat.le_of_succ_le HSB.out)).below (Nat.le_refl _))).trans (HB2.out.mono (Nat.le_succ _)), HQN.out, HCH.out⟩
     ·obtain ⟨p, hp⟩ : ∃ p, L[j - 1]? = some p := ⟨_, List.getElem?_eq_getElem (by omega)⟩
      have hpm := List.mem_of_getElem? hp
      obtain ⟨sb, so, rfl, hrw⟩ := HOX.out.o.adr hp
      have hlast : (L.map Cm.key).getLast? = some p.key := by rw [List.getLast?_eq_getElem?, List.length_map, hts, List.getElem?_map, hp]; rfl
      have hok := (HOX.out.m p hpm).1.okS (HOX.out.m p hpm).2
      have hsv := hrw.seven hp
      have hsh := hok.shape
      have hz0 := hrw.1
      have HCM : ∀ Y : World, Below X.heap.size X Y -> Calls Tryz.prog 39 #[p.v, Cm.v (⟨(⟨⟨ck, cn, cs⟩, cm, cl⟩, .slice c1 c2 c3), cb, .slice c4 c5 c6, ct, .slice c7 c8 c9⟩ : Cm)] Y fun e w' => e = .returned (.int .i64 (p.cmp (⟨(⟨⟨ck, cn, cs⟩, cm, cl⟩, .slice c1 c2 c3), cb, .slice c4 c5 c6, ct, .slice c7 c8 c9⟩ : Cm))) /\ Below Y.heap.size Y w' := fun Y hY => rcompareC_any p (⟨(⟨⟨ck, cn, cs⟩, cm, cl⟩, .slice c1 c2 c3), cb, .slice c4 c5 c6, ct, .slice c7 c8 c9⟩ : Cm) Y (hok.later hY) ((HTX.out.1.okS HTX.out.2).later hY) (chk_szs9 (HCH1.out p (List.mem_append_left _ hpm))) (chk_szs9 (HCH1.out _ (by simp)))
      have hup : upK (L.map Cm.key).getLast? t = decide (p.cmp (⟨(⟨⟨ck, cn, cs⟩, cm, cl⟩, .slice c1 c2 c3), cb, .slice c4 c5 c6, ct, .slice c7 c8 c9⟩ : Cm) < 0) := by rw [hlast, cmp_key, <- HKT.out]; rfl
      have ep : (j : Int) - 1 = ((j - 1 : Nat) : Int) := by omega
      have ip : (0 : Int) < (j : Int) := by omega
      have iq0 : (0 : Int) <= ((j - 1 : Nat) : Int) := by omega
      have iq1 : ((j - 1 : Nat) : Int) < (j : Int) := by omega
      have HJW : Hid (IntKind.i64.wrap ((j - 1 : Nat) : Int) = ((j - 1 : Nat) : Int)) := by show _ = _; rw [IntKind.wrap_i64]; omega
      obtain ⟨R, hR⟩ : ∃ R, p.cmp (⟨(⟨⟨ck, cn, cs⟩, cm, cl⟩, .slice c1 c2 c3), cb, .slice c4 c5 c6, ct, .slice c7 c8 c9⟩ : Cm) = R := ⟨_, rfl⟩
      rw [hR] at hup
      simp only [hR] at HCM
      clear hp hpm hrw hlast hR hok
      obtain ⟨⟨⟨⟨pk, pm, ps⟩, pn, pl⟩, px⟩, pb, pbv, pt, ptv⟩ := p
      simp only at hsv hsh
      obtain ⟨⟨p1, p2, p3, e1⟩, ⟨p4, p6, e2⟩, ⟨p7, p9, e3⟩, -, -⟩ := hsh
      obtain ⟨p5, hp5⟩ : ∃ n, pb.length = n := ⟨_, rfl⟩
      obtain ⟨p8, hp8⟩ : ∃ n, pt.length = n := ⟨_, rfl⟩
      rw [hp5] at e2
      rw [hp8] at e3
      subst e1 e2 e3
      clear hp5 hp8
      obtain ⟨q0, q1, q2, q3, q4, q5, q6⟩ := hsv
      have HQ := conj7 q0 q1 q2 q3 q4 q5 q6
      have HQz : Hid (sb < X.heap.size) := hz0
      have HCM : Hid (∀ Y : World, Below X.heap.size X Y -> Calls Tryz.prog 39 #[.agg #[.int .i64 pk, .int .i64 pm, .string ps, .string pn, .slice p1 p2 p3, .slice p4 p5 p6, .slice p7 p8 p9], .agg #[.int .i64 ck, .int .i64 cn, .string cs, .string cm, .slice c1 c2 c3, .slice c4 c5 c6, .slice c7 c8 c9]] Y fun e w' => e = .returned (.int .i64 R) /\ Below Y.heap.size Y w') := HCM
      clear q0 q1 q2 q3 q4 q5 q6 hz0
      by_cases hr : R < 0
      ·have HQN : Hid (QUp B n s0 k ((L ++ [(⟨(⟨⟨ck, cn, cs⟩, cm, cl⟩, .slice c1 c2 c3), cb, .slice c4 c5 c6, ct, .slice c7 c8 c9⟩ : Cm)]).map Cm.key) s1) := by have := HKL.out; rw [show qRis (L.map Cm.key).getLast? t s1 = s1 from if_neg (fun e => by rw [hup, decide_eq_true hr] at e; cases e.2)] at this; exact this
       have HCH : Hid (s1.er = 0 -> ∀ c ∈ L ++ [(⟨(⟨⟨ck, cn, cs⟩, cm, cl⟩, .slice c1 c2 c3), cb, .slice c4 c5 c6, ct, .slice c7 c8 c9⟩ : Cm)], c.chk = 0) := fun _ => HCH1.out
       have n1 : ¬ (0 <= R) := by omega
       have n2 : ¬ (R ≥ 0) := by omega
       clear hup
       refine wp_region_held_drew (S := fun w' => Below X.heap.size X w') (by kernel_rfl) (Below.refl _ _).drew (fun hH => ?_)
       revert hH
       generalize X.drew = V
       intro hH
       refine wTk 0 (.pointer (some ⟨w.heap.size, 0, none⟩)) rfl (by kernel_rfl) (fun _ _ _ h => h) (Or.inl ⟨by rfl, fun w' _ => by go_simp⟩) hH ?_
       simp only [wA8, wB8, wC8, wD8]
       refine wTk 1 (.pointer (some ⟨w.heap.size, 0, none⟩)) rfl (by kernel_rfl) (fun _ _ _ h => h) (Or.inl ⟨by rfl, fun w' _ => by go_simp⟩) hH ?_
       simp only [wA8, wB8, wC8, wD8]
       refine wTk 2 (.pointer (some ⟨w.heap.size, 2, none⟩)) rfl (by kernel_rfl) (fun _ _ _ h => h) (Or.inl ⟨by rfl, fun w' _ => by go_simp⟩) hH ?_
       simp only [wA8, wB8, wC8, wD8]
       refine wTk 3 (.int .i64 0) rfl (by kernel_rfl) (fun _ _ _ h => h) (Or.inl ⟨by rfl, fun w' h => by have z := HER.out w' h; clear h; go_simp⟩) hH ?_
       simp only [wA8, wB8, wC8, wD8]
       refine wTk 4 (.bool true) rfl (by kernel_rfl) (fun _ _ _ h => h) (Or.inl ⟨by rfl, fun w' _ => by go_simp⟩) hH ?_
       simp only [wA8, wB8, wC8, wD8]
       refine wTk 5 (.bool true) rfl (by kernel_rfl) (fun _ _ _ h => h) (Or.inl ⟨by rfl, fun w' _ => by go_simp⟩) hH ?_
       simp only [wA8, wB8, wC8, wD8]
       refine wTk 6 (.int .i64 (j : Int)) rfl (by kernel_rfl) (fun _ _ _ h => h) (Or.inl ⟨by rfl, fun w' _ => by go_simp⟩) hH ?_
       simp only [wA8, wB8, wC8, wD8]
       refine wTk 7 (.bool true) rfl (by kernel_rfl) (fun _ _ _ h => h) (Or.inl ⟨by rfl, fun w' _ => by go_simp⟩) hH ?_
       simp only [wA8, wB8, wC8, wD8]
       refine wTk 8 (.bool true) rfl (by kernel_rfl) (fun _ _ _ h => h) (Or.inl ⟨by rfl, fun w' _ => by go_simp⟩) hH ?_
       simp only [wA8, wB8, wC8, wD8]
       refine wTk 9 (.bool true) rfl (by kernel_rfl) (fun _ _ _ h => h) (Or.inl ⟨by rfl, fun w' _ => by go_simp⟩) hH ?_
       simp only [wA8, wB8, wC8, wD8]
       refine wTk 10 (.slice (some ⟨sb, so, none⟩) j uc) rfl (by kernel_rfl) (fun _ _ _ h => h) (Or.inl ⟨by rfl, fun w' _ => by go_simp⟩) hH ?_
       simp only [wA8, wB8, wC8, wD8]
       refine wTk 11 (.int .i64 (j : Int)) rfl (by kernel_rfl) (fun _ _ _ h => h) (Or.inl ⟨by rfl, fun w' _ => by go_simp⟩) hH ?_
       simp only [wA8, wB8, wC8, wD8]
       refine wTk 12 (.int .i64 ((j - 1 : Nat) : Int)) rfl (by kernel_rfl) (fun _ _ _ h => h) (Or.inl ⟨by rfl, fun w' _ => by go_simp; exact HJW.out⟩) hH ?_
       simp only [wA8, wB8, wC8, wD8]
       refine wTk 13 (.pointer (some ⟨sb, so + (j - 1) * 7, none⟩)) rfl (by kernel_rfl) (fun _ _ _ h => h) (Or.inl ⟨by rfl, fun w' _ => by go_simp⟩) hH ?_
       simp only [wA8, wB8, wC8, wD8]
       refine wTk 14 (.agg #[.int .i64 pk, .int .i64 pm, .string ps, .string pn, .slice p1 p2 p3, .slice p4 p5 p6, .slice p7 p8 p9]) rfl (by kernel_rfl) (fun _ _ _ h => h) (Or.inl ⟨by rfl, fun w' h => by obtain ⟨q0, q1, q2, q3, q4, q5, q6⟩ := HQ.out; have z := HQz.out; have y0 := cell_step h z q0; have y1 := cell_step h z q1; have y2 := cell_step h z q2; have y3 := cell_step h z q3; have y4 := cell_step h z q4; have y5 := cell_step h z q5; have y6 := cell_step h z q6; clear q0 q1 q2 q3 q4 q5 q6; go_simp⟩) hH ?_
       simp only [wA8, wB8, wC8, wD8]
       refine wTk 15 (.agg #[.int .i64 ck, .int .i64 cn, .string cs, .string cm, .slice c1 c2 c3, .slice c4 c5 c6, .slice c7 c8 c9]) rfl (by kernel_rfl) (fun _ _ _ h => h) (Or.inl ⟨by rfl, fun w' h => by obtain ⟨x0, x1, x2, x3, x4, x5, x6⟩ := cseven (CBlk.later (Hid.out BT) h); clear h; go_simp⟩) hH ?_
       simp only [wA8, wB8, wC8, wD8]
       refine wRd 16 (by kernel_rfl) rfl (fun K hK => ?_)
       go_simp
       refine (HCM.out _ hH).mono ?_
       rintro e V1 ⟨rfl, hb⟩
       refine hK.out _ _ (below_step hH hb) (fun hH => ?_)
       clear hK K hb
       refine wTk 17 (.bool false) rfl (by kernel_rfl) (fun _ _ _ h => h) (Or.inl ⟨by rfl, fun w' _ => by go_simp⟩) hH ?_
       simp only [wA8, wB8, wC8, wD8]
       refine wTk 18 (.bool false) rfl (by kernel_rfl) (fun _ _ _ h => h) (Or.inl ⟨by rfl, fun w' _ => by go_simp⟩) hH ?_
       simp only [wA8, wB8, wC8, wD8]
       refine wpAnyH_done (by kernel_rfl) ?_ _
       have HSZ : Hid (RqS V1 w.heap.size B s1) := HSX.out.below hH
       have HXZ : Hid (Bv w.heap.size X.heap.size X V1) := Bv.of hH
       clear hH
       have BZ : Hid (CBlk V1 w1.heap.size #[.int .i64 ck, .int .i64 cn, .string cs, .string cm, .slice c1 c2 c3, .slice c4 c5 c6, .slice c7 c8 c9] 58) := Blk.bl9 BT.out HXZ.out HNG.out
       have HOZ : Hid (OCQ V1 (w.heap.size + 1) (.slice (some ⟨sb, so, none⟩) j uc) L) := HOX.out.blM HXZ.out (Nat.lt_succ_self _)
       have HTZ : Hid (MC8 (w.heap.size + 1) V1 (⟨(⟨⟨ck, cn, cs⟩, cm, cl⟩, .slice c1 c2 c3), cb, .slice c4 c5 c6, ct, .slice c7 c8 c9⟩ : Cm) /\ SZ (Cm.key (⟨(⟨⟨ck, cn, cs⟩, cm, cl⟩, .slice c1 c2 c3), cb, .slice c4 c5 c6, ct, .slice c7 c8 c9⟩ : Cm))) := ⟨HTX.out.1.blM HXZ.out (Nat.lt_succ_self _), HTX.out.2⟩
       have hzZ : w.heap.size + 1 <= V1.heap.size := Nat.le_trans HSB.out HXZ.out.size
       obtain ⟨x0, x1, x2, x3, x4, x5, x6⟩ := cseven BZ.out
       go_wp2_with (at_builtin; refine capp_one rfl _ _ rfl (w.heap.size + 1) (.slice (some ⟨sb, so, none⟩) j uc) L rfl (HOZ.out.o.later (below1 _ _)) V1.heap.size (⟨(⟨⟨ck, cn, cs⟩, cm, cl⟩, .slice c1 c2 c3), cb, .slice c4 c5 c6, ct, .slice c7 c8 c9⟩ : Cm) rfl (show CBlk _ _ (Cm.cs (⟨(⟨⟨ck, cn, cs⟩, cm, cl⟩, .slice c1 c2 c3), cb, .slice c4 c5 c6, ct, .slice c7 c8 c9⟩ : Cm)) _ from CBlk.new _ _ _) (W := V1) (HTZ.out.1.okS HTZ.out.2) (by omega) (by simp; omega) ?_; intro v2 w2 ho2 hb2 hg2 hk2; have HO2 : Hid (OCQ w2 (w.heap.size + 1) v2 (L ++ [(⟨(⟨⟨ck, cn, cs⟩, cm, cl⟩, .slice c1 c2 c3), cb, .slice c4 c5 c6, ct, .slice c7 c8 c9⟩ : Cm)])) := HOZ.out.add ho2 ((Kt.of (below1 _ _)).trans (row_grown (HOZ.out.o.later (below1 _ _)) hg2)) HTZ.out; have HB2 : Hid (Below (w.heap.size + 1) V1 w2) := ((below1 _ _).mono (by omega)).trans hb2; clear ho2 hb2 hg2 hk2)
       go_roundg k
       case measure => omega
       case rel => exact ⟨j + 1, L ++ [(⟨(⟨⟨ck, cn, cs⟩, cm, cl⟩, .slice c1 c2 c3), cb, .slice c4 c5 c6, ct, .slice c7 c8 c9⟩ : Cm)], s1, by omega, by go_num, by simp; omega, HO2.out, HSZ.out.low HB2.out (Nat.lt_succ_self _), (HBX.out.trans ((HXZ.out.mono (Nat.le_of_succ_le HSB.out)).below (Nat.le_refl _))).trans (HB2.out.mono (Nat.le_succ _)), HQN.out, HCH.out⟩
      ·have HQN : Hid (QUp B n s0 k ((L ++ [(⟨(⟨⟨ck, cn, cs⟩, cm, cl⟩, .slice c1 c2 c3), cb, .slice c4 c5 c6, ct, .slice c7 c8 c9⟩ : Cm)]).map Cm.key) ⟨s1.at_, 64⟩) := by have := HKL.out; rw [show qRis (L.map Cm.key).getLast? t s1 = ⟨s1.at_, 64⟩ from if_pos ⟨HE1.out, by rw [hup]; exact decide_eq_false hr⟩] at this; exact this
       have HCH : Hid ((⟨s1.at_, 64⟩ : Qs).er = 0 -> ∀ c ∈ L ++ [(⟨(⟨⟨ck, cn, cs⟩, cm, cl⟩, .slice c1 c2 c3), cb, .slice c4 c5 c6, ct, .slice c7 c8 c9⟩ : Cm)], c.chk = 0) := fun e => by cases e
       have n1 : 0 <= R := by omega
       have n2 : R ≥ 0 := by omega
       clear hup
       refine wp_region_held_drew (S := fun w' => Below X.heap.size X w') (by kernel_rfl) (Below.refl _ _).drew (fun hH => ?_)
       revert hH
       generalize X.drew = V
       intro hH
       refine wTk 0 (.pointer (some ⟨w.heap.size, 0, none⟩)) rfl (by kernel_rfl) (fun _ _ _ h => h) (Or.inl ⟨by rfl, fun w' _ => by go_simp⟩) hH ?_
       simp only [wA8, wB8, wC8, wD8]
       refine wTk 1 (.pointer (some ⟨w.heap.size, 0, none⟩)) rfl (by kernel_rfl) (fun _ _ _ h => h) (Or.inl ⟨by rfl, fun w' _ => by go_simp⟩) hH ?_
       simp only [wA8, wB8, wC8, wD8]
       refine wTk 2 (.pointer (some ⟨w.heap.size, 2, none⟩)) rfl (by kernel_rfl) (fun _ _ _ h => h) (Or.inl ⟨by rfl, fun w' _ => by go_simp⟩) hH ?_
       simp only [wA8, wB8, wC8, wD8]
       refine wTk 3 (.int .i64 0) rfl (by kernel_rfl) (fun _ _ _ h => h) (Or.inl ⟨by rfl, fun w' h => by have z := HER.out w' h; clear h; go_simp⟩) hH ?_
       simp only [wA8, wB8, wC8, wD8]
       refine wTk 4 (.bool true) rfl (by kernel_rfl) (fun _ _ _ h => h) (Or.inl ⟨by rfl, fun w' _ => by go_simp⟩) hH ?_
       simp only [wA8, wB8, wC8, wD8]
       refine wTk 5 (.bool true) rfl (by kernel_rfl) (fun _ _ _ h => h) (Or.inl ⟨by rfl, fun w' _ => by go_simp⟩) hH ?_
       simp only [wA8, wB8, wC8, wD8]
       refine wTk 6 (.int .i64 (j : Int)) rfl (by kernel_rfl) (fun _ _ _ h => h) (Or.inl ⟨by rfl, fun w' _ => by go_simp⟩) hH ?_
       simp only [wA8, wB8, wC8, wD8]
       refine wTk 7 (.bool true) rfl (by kernel_rfl) (fun _ _ _ h => h) (Or.inl ⟨by rfl, fun w' _ => by go_simp⟩) hH ?_
       simp only [wA8, wB8, wC8, wD8]
       refine wTk 8 (.bool true) rfl (by kernel_rfl) (fun _ _ _ h => h) (Or.inl ⟨by rfl, fun w' _ => by go_simp⟩) hH ?_
       simp only [wA8, wB8, wC8, wD8]
       refine wTk 9 (.bool true) rfl (by kernel_rfl) (fun _ _ _ h => h) (Or.inl ⟨by rfl, fun w' _ => by go_simp⟩) hH ?_
       simp only [wA8, wB8, wC8, wD8]
       refine wTk 10 (.slice (some ⟨sb, so, none⟩) j uc) rfl (by kernel_rfl) (fun _ _ _ h => h) (Or.inl ⟨by rfl, fun w' _ => by go_simp⟩) hH ?_
       simp only [wA8, wB8, wC8, wD8]
       refine wTk 11 (.int .i64 (j : Int)) rfl (by kernel_rfl) (fun _ _ _ h => h) (Or.inl ⟨by rfl, fun w' _ => by go_simp⟩) hH ?_
       simp only [wA8, wB8, wC8, wD8]
       refine wTk 12 (.int .i64 ((j - 1 : Nat) : Int)) rfl (by kernel_rfl) (fun _ _ _ h => h) (Or.inl ⟨by rfl, fun w' _ => by go_simp; exact HJW.out⟩) hH ?_
       simp only [wA8, wB8, wC8, wD8]
       refine wTk 13 (.pointer (some ⟨sb, so + (j - 1) * 7, none⟩)) rfl (by kernel_rfl) (fun _ _ _ h => h) (Or.inl ⟨by rfl, fun w' _ => by go_simp⟩) hH ?_
       simp only [wA8, wB8, wC8, wD8]
       refine wTk 14 (.agg #[.int .i64 pk, .int .i64 pm, .string ps, .string pn, .slice p1 p2 p3, .slice p4 p5 p6, .slice p7 p8 p9]) rfl (by kernel_rfl) (fun _ _ _ h => h) (Or.inl ⟨by rfl, fun w' h => by obtain ⟨q0, q1, q2, q3, q4, q5, q6⟩ := HQ.out; have z := HQz.out; have y0 := cell_step h z q0; have y1 := cell_step h z q1; have y2 := cell_step h z q2; have y3 := cell_step h z q3; have y4 := cell_step h z q4; have y5 := cell_step h z q5; have y6 := cell_step h z q6; clear q0 q1 q2 q3 q4 q5 q6; go_simp⟩) hH ?_
       simp only [wA8, wB8, wC8, wD8]
       refine wTk 15 (.agg #[.int .i64 ck, .int .i64 cn, .string cs, .string cm, .slice c1 c2 c3, .slice c4 c5 c6, .slice c7 c8 c9]) rfl (by kernel_rfl) (fun _ _ _ h => h) (Or.inl ⟨by rfl, fun w' h => by obtain ⟨x0, x1, x2, x3, x4, x5, x6⟩ := cseven (CBlk.later (Hid.out BT) h); clear h; go_simp⟩) hH ?_
       simp only [wA8, wB8, wC8, wD8]
       refine wRd 16 (by kernel_rfl) rfl (fun K hK => ?_)
       go_simp
       refine (HCM.out _ hH).mono ?_
       rintro e V1 ⟨rfl, hb⟩
       refine hK.out _ _ (below_step hH hb) (fun hH => ?_)
       clear hK K hb
       refine wTk 17 (.bool true) rfl (by kernel_rfl) (fun _ _ _ h => h) (Or.inl ⟨by rfl, fun w' _ => by go_simp⟩) hH ?_
       simp only [wA8, wB8, wC8, wD8]
       refine wTk 18 (.bool true) rfl (by kernel_rfl) (fun _ _ _ h => h) (Or.inl ⟨by rfl, fun w' _ => by go_simp⟩) hH ?_
       simp only [wA8, wB8, wC8, wD8]
       refine wpAnyH_done (by kernel_rfl) ?_ _
       have HSV : Hid (RqS V1 w.heap.size B s1) := HSX.out.below hH
       have HXV : Hid (Bv w.heap.size X.heap.size X V1) := Bv.of hH
       clear hH
       go_upto_region 10 with (go_at_call 40; refine (qstop_any 64 _ B s1 _ HSV.out).mono ?_; rintro e w3 ⟨rfl, hs, hb⟩; have HSZ : Hid (RqS w3 w.heap.size B ⟨s1.at_, 64⟩) := (by rw [stp_0 HE1.out] at hs; exact hs); have HXZ : Hid (Bv w.heap.size X.heap.size X w3) := HXV.out.step hb; clear hs hb)
       have BZ : Hid (CBlk w3 w1.heap.size #[.int .i64 ck, .int .i64 cn, .string cs, .string cm, .slice c1 c2 c3, .slice c4 c5 c6, .slice c7 c8 c9] 58) := Blk.bl9 BT.out HXZ.out HNG.out
       have HOZ : Hid (OCQ w3 (w.heap.size + 1) (.slice (some ⟨sb, so, none⟩) j uc) L) := HOX.out.blM HXZ.out (Nat.lt_succ_self _)
       have HTZ : Hid (MC8 (w.heap.size + 1) w3 (⟨(⟨⟨ck, cn, cs⟩, cm, cl⟩, .slice c1 c2 c3), cb, .slice c4 c5 c6, ct, .slice c7 c8 c9⟩ : Cm) /\ SZ (Cm.key (⟨(⟨⟨ck, cn, cs⟩, cm, cl⟩, .slice c1 c2 c3), cb, .slice c4 c5 c6, ct, .slice c7 c8 c9⟩ : Cm))) := ⟨HTX.out.1.blM HXZ.out (Nat.lt_succ_self _), HTX.out.2⟩
       have hzZ : w.heap.size + 1 <= w3.heap.size := Nat.le_trans HSB.out HXZ.out.size
       obtain ⟨x0, x1, x2, x3, x4, x5, x6⟩ := cseven BZ.out
       go_wp2_with (at_builtin; refine capp_one rfl _ _ rfl (w.heap.size + 1) (.slice (some ⟨sb, so, none⟩) j uc) L rfl (HOZ.out.o.later (below1 _ _)) w3.heap.size (⟨(⟨⟨ck, cn, cs⟩, cm, cl⟩, .slice c1 c2 c3), cb, .slice c4 c5 c6, ct, .slice c7 c8 c9⟩ : Cm) rfl (show CBlk _ _ (Cm.cs (⟨(⟨⟨ck, cn, cs⟩, cm, cl⟩, .slice c1 c2 c3), cb, .slice c4 c5 c6, ct, .slice c7 c8 c9⟩ : Cm)) _ from CBlk.new _ _ _) (W := w3) (HTZ.out.1.okS HTZ.out.2) (by omega) (by simp; omega) ?_; intro v2 w2 ho2 hb2 hg2 hk2; have HO2 : Hid (OCQ w2 (w.heap.size + 1) v2 (L ++ [(⟨(⟨⟨ck, cn, cs⟩, cm, cl⟩, .slice c1 c2 c3), cb, .slice c4 c5 c6, ct, .slice c7 c8 c9⟩ : Cm)])) := HOZ.out.add ho2 ((Kt.of (below1 _ _)).trans (row_grown (HOZ.out.o.later (below1 _ _)) hg2)) HTZ.out; have HB2 : Hid (Below (w.heap.size + 1) w3 w2) := ((below1 _ _).mono (by omega)).trans hb2; clear ho2 hb2 hg2 hk2)
       go_roundg k
       case measure => omega
       case rel => exact ⟨j + 1, L ++ [(⟨(⟨⟨ck, cn, cs⟩, cm, cl⟩, .slice c1 c2 c3), cb, .slice c4 c5 c6, ct, .slice c7 c8 c9⟩ : Cm)], ⟨s1.at_, 64⟩, by omega, by go_num, by simp; omega, HO2.out, HSZ.out.low HB2.out (Nat.lt_succ_self _), (HBX.out.trans ((HXZ.out.mono (Nat.le_of_succ_le HSB.out)).below (Nat.le_refl _))).trans (HB2.out.mono (Nat.le_succ _)), HQN.out, HCH.out⟩
    ·have HQN : Hid (QUp B n s0 k ((L ++ [(⟨(⟨⟨ck, cn, cs⟩, cm, cl⟩, .slice c1 c2 c3), cb, .slice c4 c5 c6, ct, .slice c7 c8 c9⟩ : Cm)]).map Cm.key) s1) := by have := HKL.out; rw [qRis_ne he1] at this; exact this
     have HCH : Hid (s1.er = 0 -> ∀ c ∈ L ++ [(⟨(⟨⟨ck, cn, cs⟩, cm, cl⟩, .slice c1 c2 c3), cb, .slice c4 c5 c6, ct, .slice c7 c8 c9⟩ : Cm)], c.chk = 0) := fun e => absurd e he1
     have hne1 : (s1.er == 0) = false := by simpa using he1
     obtain ⟨E, hE⟩ : ∃ E, s1.er = E := ⟨_, rfl⟩
     rw [hE] at HER hne1
     clear hE he1
     refine wp_region_held_drew (S := fun w' => Below X.heap.size X w') (by kernel_rfl) (Below.refl _ _).drew (fun hH => ?_)
     revert hH
     generalize X.drew = V
     intro hH
     refine wTk 0 (.pointer (some ⟨w.heap.size, 0, none⟩)) rfl (by kernel_rfl) (fun _ _ _ h => h) (Or.inl ⟨by rfl, fun w' _ => by go_simp⟩) hH ?_
     simp only [wA8, wB8, wC8, wD8]
     refine wTk 1 (.pointer (some ⟨w.heap.size, 0, none⟩)) rfl (by kernel_rfl) (fun _ _ _ h => h) (Or.inl ⟨by rfl, fun w' _ => by go_simp⟩) hH ?_
     simp only [wA8, wB8, wC8, wD8]
     refine wTk 2 (.pointer (some ⟨w.heap.size, 2, none⟩)) rfl (by kernel_rfl) (fun _ _ _ h => h) (Or.inl ⟨by rfl, fun w' _ => by go_simp⟩) hH ?_
     simp only [wA8, wB8, wC8, wD8]
     refine wTk 3 (.int .i64 E) rfl (by kernel_rfl) (fun _ _ _ h => h) (Or.inl ⟨by rfl, fun w' h => by have z := HER.out w' h; clear h; go_simp⟩) hH ?_
     simp only [wA8, wB8, wC8, wD8]
     refine wTk 4 (.bool false) rfl (by kernel_rfl) (fun _ _ _ h => h) (Or.inl ⟨by rfl, fun w' _ => by go_simp⟩) hH ?_
     simp only [wA8, wB8, wC8, wD8]
     refine wTk 5 (.bool false) rfl (by kernel_rfl) (fun _ _ _ h => h) (Or.inl ⟨by rfl, fun w' _ => by go_simp⟩) hH ?_
     simp only [wA8, wB8, wC8, wD8]
     refine wTk 6 (undef) rfl (by kernel_rfl) (fun _ _ _ h => h) (Or.inr ⟨by rfl, rfl⟩) hH ?_
     simp only [wA8, wB8, wC8, wD8]
     refine wTk 7 (undef) rfl (by kernel_rfl) (fun _ _ _ h => h) (Or.inr ⟨by rfl, rfl⟩) hH ?_
     simp only [wA8, wB8, wC8, wD8]
     refine wTk 8 (.bool false) rfl (by kernel_rfl) (fun _ _ _ h => h) (Or.inl ⟨by rfl, fun w' _ => by go_simp⟩) hH ?_
     simp only [wA8, wB8, wC8, wD8]
     refine wTk 9 (.bool false) rfl (by kernel_rfl) (fun _ _ _ h => h) (Or.inl ⟨by rfl, fun w' _ => by go_simp⟩) hH ?_
     simp only [wA8, wB8, wC8, wD8]
     refine wTk 10 (undef) rfl (by kernel_rfl) (fun _ _ _ h => h) (Or.inr ⟨by rfl, rfl⟩) hH ?_
     simp only [wA8, wB8, wC8, wD8]
     refine wTk 11 (undef) rfl (by kernel_rfl) (fun _ _ _ h => h) (Or.inr ⟨by rfl, rfl⟩) hH ?_
     simp only [wA8, wB8, wC8, wD8]
     refine wTk 12 (undef) rfl (by kernel_rfl) (fun _ _ _ h => h) (Or.inr ⟨by rfl, rfl⟩) hH ?_
     simp only [wA8, wB8, wC8, wD8]
     refine wTk 13 (undef) rfl (by kernel_rfl) (fun _ _ _ h => h) (Or.inr ⟨by rfl, rfl⟩) hH ?_
     simp only [wA8, wB8, wC8, wD8]
     refine wTk 14 (undef) rfl (by kernel_rfl) (fun _ _ _ h => h) (Or.inr ⟨by rfl, rfl⟩) hH ?_
     simp only [wA8, wB8, wC8, wD8]
     refine wTk 15 (undef) rfl (by kernel_rfl) (fun _ _ _ h => h) (Or.inr ⟨by rfl, rfl⟩) hH ?_
     simp only [wA8, wB8, wC8, wD8]
     refine wTk 16 (undef) rfl (by kernel_rfl) (fun _ _ _ h => h) (Or.inr ⟨by rfl, rfl⟩) hH ?_
     simp only [wA8, wB8, wC8, wD8]
     refine wTk 17 (undef) rfl (by kernel_rfl) (fun _ _ _ h => h) (Or.inr ⟨by rfl, rfl⟩) hH ?_
     simp only [wA8, wB8, wC8, wD8]
     refine wTk 18 (.bool false) rfl (by kernel_rfl) (fun _ _ _ h => h) (Or.inl ⟨by rfl, fun w' _ => by go_simp⟩) hH ?_
     simp only [wA8, wB8, wC8, wD8]
     refine wpAnyH_done (by kernel_rfl) ?_ _
     have HSZ : Hid (RqS V w.heap.size B s1) := HSX.out.below hH
     have HXZ : Hid (Bv w.heap.size X.heap.size X V) := Bv.of hH
     clear hH
     have BZ : Hid (CBlk V w1.heap.size #[.int .i64 ck, .int .i64 cn, .string cs, .string cm, .slice c1 c2 c3, .slice c4 c5 c6, .slice c7 c8 c9] 58) := Blk.bl9 BT.out HXZ.out HNG.out
     have HOZ : Hid (OCQ V (w.heap.size + 1) (.slice ua j uc) L) := HOX.out.blM HXZ.out (Nat.lt_succ_self _)
     have HTZ : Hid (MC8 (w.heap.size + 1) V (⟨(⟨⟨ck, cn, cs⟩, cm, cl⟩, .slice c1 c2 c3), cb, .slice c4 c5 c6, ct, .slice c7 c8 c9⟩ : Cm) /\ SZ (Cm.key (⟨(⟨⟨ck, cn, cs⟩, cm, cl⟩, .slice c1 c2 c3), cb, .slice c4 c5 c6, ct, .slice c7 c8 c9⟩ : Cm))) := ⟨HTX.out.1.blM HXZ.out (Nat.lt_succ_self _), HTX.out.2⟩
     have hzZ : w.heap.size + 1 <= V.heap.size := Nat.le_trans HSB.out HXZ.out.size
     obtain ⟨x0, x1, x2, x3, x4, x5, x6⟩ := cseven BZ.out
     go_wp2_with (at_builtin; refine capp_one rfl _ _ rfl (w.heap.size + 1) (.slice ua j uc) L rfl (HOZ.out.o.later (below1 _ _)) V.heap.size (⟨(⟨⟨ck, cn, cs⟩, cm, cl⟩, .slice c1 c2 c3), cb, .slice c4 c5 c6, ct, .slice c7 c8 c9⟩ : Cm) rfl (show CBlk _ _ (Cm.cs (⟨(⟨⟨ck, cn, cs⟩, cm, cl⟩, .slice c1 c2 c3), cb, .slice c4 c5 c6, ct, .slice c7 c8 c9⟩ : Cm)) _ from CBlk.new _ _ _) (W := V) (HTZ.out.1.okS HTZ.out.2) (by omega) (by simp; omega) ?_; intro v2 w2 ho2 hb2 hg2 hk2; have HO2 : Hid (OCQ w2 (w.heap.size + 1) v2 (L ++ [(⟨(⟨⟨ck, cn, cs⟩, cm, cl⟩, .slice c1 c2 c3), cb, .slice c4 c5 c6, ct, .slice c7 c8 c9⟩ : Cm)])) := HOZ.out.add ho2 ((Kt.of (below1 _ _)).trans (row_grown (HOZ.out.o.later (below1 _ _)) hg2)) HTZ.out; have HB2 : Hid (Below (w.heap.size + 1) V w2) := ((below1 _ _).mono (by omega)).trans hb2; clear ho2 hb2 hg2 hk2)
     go_roundg k
     case measure => omega
     case rel => exact ⟨j + 1, L ++ [(⟨(⟨⟨ck, cn, cs⟩, cm, cl⟩, .slice c1 c2 c3), cb, .slice c4 c5 c6, ct, .slice c7 c8 c9⟩ : Cm)], s1, by omega, by go_num, by simp; omega, HO2.out, HSZ.out.low HB2.out (Nat.lt_succ_self _), (HBX.out.trans ((HXZ.out.mono (Nat.le_of_succ_le HSB.out)).below (Nat.le_refl _))).trans (HB2.out.mono (Nat.le_succ _)), HQN.out, HCH.out⟩
  ·have hex : s.er ≠ 0 ∨ gk = 0 := by
    by_cases h0 : s.er = 0
    ·right; by_cases h1 : (j : Int) < (n : Int)
     ·exact absurd ⟨h1, h0⟩ hx
     ·omega
    ·exact Or.inl h0
   by_cases i1 : (j : Int) < (n : Int)
   ·have he9 : (s.er == 0) = false := by simpa using fun e => hx ⟨i1, e⟩
    clear hx hat
    have HQE : Hid (qSet B ⟨0, 0⟩ = (L.map Cm.key, s)) := by show qUp B _ none _ = _; rw [HNN.out, HS00.out]; exact HQU.out.stop hex
    have HW : (rWhole rSet B = .ok (L.map Cm.key) /\ (qEnd B s).er = 0) ∨ (rWhole rSet B = .error (qEnd B s).er /\ (qEnd B s).er ≠ 0) := by have := whole_togS HY.out; rw [HQE.out] at this; exact this
    clear hex HQU HCK
    go_upto_region 12 with (go_at_call 41; refine (qend_any _ B s _ HS.out).mono ?_; rintro e w4 ⟨rfl, hs, hb⟩; have HS4 : Hid (RqS w4 w.heap.size B (qEnd B s)) := hs; have HO4 : Hid (OCQ w4 (w.heap.size + 1) (.slice ua j uc) L) := HO.out.blM hb (Nat.lt_succ_self _); have HB4 : Hid (Below w.heap.size w w4) := HB.out.trans ((hb.mono HB.out.size).below (Nat.le_refl _)); clear hs hb)
    have e2 : w4.cell? ⟨w.heap.size, 2, none⟩ = some (.int .i64 (qEnd B s).er) := by obtain ⟨sa, sc, -, -, e, -⟩ := HS4.out.cells; exact e
    generalize (qEnd B s).er = er at *
    rcases HW with ⟨HW, he⟩ | ⟨HW, he⟩
    ·subst he
     have HWW : Hid (rWhole rSet B = .ok (L.map Cm.key)) := HW
     clear HW
     go_wp2
     refine bodyPost_ret (v := .tuple #[.slice ua j uc, .int .i64 0]) (by simp [results, Tryz.results12, go_sem]) rfl ?_
     rw [HWW.out]
     exact ⟨HB4.out, _, L, 0, rfl, HO4.out.csp, rfl, rfl⟩
    ·have HWW : Hid (rWhole rSet B = .error er) := HW
     have hne : (er != 0) = true := by simpa using he
     clear HW
     go_upto_region 13 with fail
     go_region
     go_wp2
     refine bodyPost_ret (v := .tuple #[.slice none 0 0, .int .i64 er]) (by simp [results, Tryz.results12, go_sem]) rfl ?_
     rw [HWW.out]
     exact ⟨HB4.out.drew, _, [], er, rfl, ⟨Or.inl ⟨rfl, rfl⟩, fun c hc => by cases hc⟩, rfl, rfl⟩
   ·clear hx hat
    have HQE : Hid (qSet B ⟨0, 0⟩ = (L.map Cm.key, s)) := by show qUp B _ none _ = _; rw [HNN.out, HS00.out]; exact HQU.out.stop hex
    have HW : (rWhole rSet B = .ok (L.map Cm.key) /\ (qEnd B s).er = 0) ∨ (rWhole rSet B = .error (qEnd B s).er /\ (qEnd B s).er ≠ 0) := by have := whole_togS HY.out; rw [HQE.out] at this; exact this
    clear hex HQU HCK
    go_upto_region 12 with (go_at_call 41; refine (qend_any _ B s _ HS.out).mono ?_; rintro e w4 ⟨rfl, hs, hb⟩; have HS4 : Hid (RqS w4 w.heap.size B (qEnd B s)) := hs; have HO4 : Hid (OCQ w4 (w.heap.size + 1) (.slice ua j uc) L) := HO.out.blM hb (Nat.lt_succ_self _); have HB4 : Hid (Below w.heap.size w w4) := HB.out.trans ((hb.mono HB.out.size).below (Nat.le_refl _)); clear hs hb)
    have e2 : w4.cell? ⟨w.heap.size, 2, none⟩ = some (.int .i64 (qEnd B s).er) := by obtain ⟨sa, sc, -, -, e, -⟩ := HS4.out.cells; exact e
    generalize (qEnd B s).er = er at *
    rcases HW with ⟨HW, he⟩ | ⟨HW, he⟩
    ·subst he
     have HWW : Hid (rWhole rSet B = .ok (L.map Cm.key)) := HW
     clear HW
     go_wp2
     refine bodyPost_ret (v := .tuple #[.slice ua j uc, .int .i64 0]) (by simp [results, Tryz.results12, go_sem]) rfl ?_
     rw [HWW.out]
     exact ⟨HB4.out, _, L, 0, rfl, HO4.out.csp, rfl, rfl⟩
    ·have HWW : Hid (rWhole rSet B = .error er) := HW
     have hne : (er != 0) = true := by simpa using he
     clear HW
     go_upto_region 13 with fail
     go_region
     go_wp2
     refine bodyPost_ret (v := .tuple #[.slice none 0 0, .int .i64 er]) (by simp [results, Tryz.results12, go_sem]) rfl ?_
     rw [HWW.out]
     exact ⟨HB4.out.drew, _, [], er, rfl, ⟨Or.inl ⟨rfl, rfl⟩, fun c hc => by cases hc⟩, rfl, rfl⟩
end Go.Proofs.YtnenadklmjcakaaGreatDoor
