import Derived.Test.YtcejljehjhlonaaGreatDoorCP0
import Derived.Test.YtcejljehjhlonaaGreatDoorLD4
import Derived.Test.YtcejljehjhlonaaGreatDoorOQ1
import Derived.Deep.RegionHeld3
import Derived.Deep.CutRange
import Derived.BigQuiet
import Derived.Test.YtcejljehjhlonaaGreatDoorB5
import Derived.Test.YtcejljehjhlonaaGreatDoorHC7
namespace Go.Proofs.YtcejljehjhlonaaGreatDoor
open Go.RowKit

def bC : Cm := ⟨(⟨zt, ⟨#[98, 101, 104, 105, 110, 100]⟩, []⟩, .slice none 0 0), [], .slice none 0 0, [], .slice none 0 0⟩
theorem bC_ok (w : World) : bC.ok w := ⟨⟨none, 0, rfl, by simp [bC], Or.inl rfl⟩, ⟨none, 0, rfl, by simp [bC], Or.inl rfl, fun x hx => by simp [bC] at hx⟩, ⟨none, 0, rfl, by simp [bC], Or.inl rfl⟩⟩
theorem Lent.agree {B : Nat} {X Y : World} {d : Cm} (h : Lent B X d) (hs : X.heap.size <= Y.heap.size) (ha : ∀ b, B <= b -> b < X.heap.size -> Y.heap[b]? = X.heap[b]?) : Lent B Y d := by
 have hA : Ag B X.heap.size X Y := ⟨hs, fun k h1 h2 _ => ha k h1 h2⟩
 refine ⟨h.h.ag hA (fun k hk => by have := (h.h.lt k hk).2; omega), h.b.ag hA (fun k hk => by have := (h.b.lt k hk).2; omega) (fun x hx k hk => by have := ((h.b.2 x hx).lt k hk).2; omega), ?_⟩
 obtain ⟨g, cap, e, ho⟩ := h.t
 exact ⟨g, cap, e, ho.agree ha⟩
theorem Lent.mono {B B' : Nat} {X : World} {d : Cm} (h : Lent B X d) (hb : B' <= B) : Lent B' X d := by
 refine ⟨h.h.mono hb, h.b.mono hb, ?_⟩
 obtain ⟨g, cap, e, ho⟩ := h.t
 exact ⟨g, cap, e, ho.mono hb⟩
theorem CsP.getS {w : World} {a : Option Addr} {n cap j : Nat} {l : List Cm} {c : Cm} (h : CsP w (.slice a n cap) l) (hc : l[j]? = some c) : ∃ b o, a = some ⟨b, o, none⟩ /\ CRow w b o l := by
 rcases h.m with ⟨e, rfl⟩ | ⟨ad, cap', e, h2⟩
 ·simp at hc
 ·simp only [Value.slice.injEq] at e
  obtain ⟨rfl, -, -⟩ := e
  rcases h2 with rfl | ⟨b, o, rfl, h2⟩
  ·simp at hc
  ·exact ⟨b, o, rfl, h2⟩
structure LAC (B : Nat) (X : World) (v : Value) (l : List Cm) : Prop where
 o : OwnC X B v l
 s : ∀ c ∈ l, ∀ Y : World, X.grownBy Y v.ownBlock -> Lent B Y c
theorem LAC.nil (B : Nat) (X : World) : LAC B X (.slice none 0 0) [] := ⟨OwnC.nil _ _, fun c hc => by cases hc⟩
theorem LAC.later {B : Nat} {X X' : World} {v : Value} {l : List Cm} (h : LAC B X v l) (hb : Below X.heap.size X X') : LAC B X' v l :=
 ⟨h.o.later hb, fun c hc Y hY => h.s c hc Y ((grown_of hb _).trans hY)⟩
theorem LAC.add {B : Nat} {X X' : World} {v v' : Value} {l : List Cm} {d : Cm} (H : LAC B X v l) (hd : ∀ Y, X.grownBy Y v.ownBlock -> Lent B Y d) (hown : OwnC X' B v' (l ++ [d])) (hg : X.grownBy X' v.ownBlock)
  (ha : ∀ k, v'.ownBlock = some k -> v.ownBlock = some k ∨ X.heap.size <= k) : LAC B X' v' (l ++ [d]) :=
 ⟨hown, fun c hc Y hY => by
  have hG : X.grownBy Y v.ownBlock := hg.andThen hY fun k hk => (ha k hk).symm
  rcases List.mem_append.1 hc with hc | hc
  ·exact H.s c hc Y hG
  ·rw [List.mem_singleton] at hc; subst hc; exact hd Y hG⟩
theorem Lent.gr {B C : Nat} {X Y : World} {d : Cm} {o : Obj} {row : Option Nat} (h : Lent B X d) (hC : C <= B) (hr : ∀ k, row = some k -> k < B) (hg : (X.alloc o).grownBy Y row) : Lent C Y d :=
 Lent.mono (h.agree (by have := hg.size; rw [show (X.alloc o).heap.size = X.heap.size + 1 by simp] at this; omega) fun b h1 h2 => by
  have := hg.block b (by rw [show (X.alloc o).heap.size = X.heap.size + 1 by simp]; omega) (fun e => by have := hr b e.symm; omega)
  rw [this, @heap_alloc_old _ _ _ h2]) hC
def LentC (X : World) (B : Nat) (u : Value) (LB : List Cm) : Prop := (∃ g cap, u = .slice (some ⟨g, 0, none⟩) LB.length cap /\ OwnC X B (.slice (some ⟨g, 0, none⟩) (LB.length + 1) cap) (LB ++ [bC])) /\ ∀ d ∈ LB, Lent B X d
theorem ownC_some {w : World} {base : Nat} {v : Value} {l : List Cm} {x : Cm} (h : OwnC w base v (l ++ [x])) : ∃ g cap, v = .slice (some ⟨g, 0, none⟩) (l.length + 1) cap /\ l.length + 1 <= cap := by
 rcases h.2 with ⟨-, hn⟩ | ⟨g, cap, cur, hv, hb, hg, hn, rest⟩
 ·simp at hn
 ·rw [List.length_append, List.length_singleton] at hv hn
  exact ⟨g, cap, hv, hn⟩
structure LP (w : World) (c : Cm) : Prop where
 ok : c.ok w
 hh : TsP w c.head.2 c.head.1.args
 hp : ∀ x ∈ c.body, TsP w x.2 x.1.args
 ht : EsP w c.tv c.tests
 hs : (Ck.terms c.key).length <= 4000000
theorem LP.later {w w' : World} {c : Cm} (h : LP w c) (hb : Below w.heap.size w w') : LP w' c := ⟨h.ok.later hb, h.hh.later hb, fun x hx => (h.hp x hx).later hb, h.ht.later hb, h.hs⟩
theorem Lent.okk {B : Nat} {X : World} {d : Cm} (h : Lent B X d) (hs : (Ck.terms d.key).length <= 4000000) : d.ok X := by
 obtain ⟨s1, s2, s3, s4⟩ := cm_sizes hs
 exact h.ok (by omega) (by omega) (fun y hy => by have := s4 y hy; omega) (by omega)
set_option maxRecDepth 20000 in
set_option maxHeartbeats 4000000 in
theorem lendCs_any (l : List Cm) (v : Value) (w : World) (h : CsP w v l) (hp : ∀ c ∈ l, LP w c) (hl : l.length <= 1000000000) (hB : BehOk w) :
  Calls Tryz.prog 11 #[v] w fun e w' => ∃ u LB, e = .returned u /\ LB.map Cm.key = l.map Cm.key /\ LentC w' w.heap.size u LB /\ Below w.heap.size w w' := by
 have HC : Hid (CsP w v l) := h
 have HP : Hid (∀ c ∈ l, LP w c) := hp
 have HBH : Hid (BehOk w) := hB
 obtain ⟨va, vc, rfl⟩ := h.form
 clear h hp hB
 go_enter Tryz.func11, Tryz.ntmps11
 go_wp2
 go_loopg [3, 4] l.length (fun g u i wr => ∃ (j : Nat) (LB : List Cm), j + g = l.length /\ i = .int .i64 (j : Int) /\ LB.length = j /\ LB.map Cm.key = (l.take j).map Cm.key /\ LAC w.heap.size wr u LB /\ Below w.heap.size w wr)
 case atStart => exact ⟨0, [], by omega, rfl, rfl, rfl, LAC.nil _ _, Below.refl _ _⟩
 case round =>
  obtain ⟨j, LB, hj, rfl, hlb, hkb, hla, hb⟩ := hrel
  have HLA : Hid (LAC w.heap.size wr u3 LB) := hla
  have HK : Hid (LB.map Cm.key = (l.take j).map Cm.key) := hkb
  have HB : Hid (Below w.heap.size w wr) := hb
  clear hkb hla hb
  cases gk with
  | succ g =>
   have i1 : (j : Int) < (l.length : Int) := by omega
   have i0 : (0 : Int) <= (j : Int) := by omega
   obtain ⟨c, hc⟩ : ∃ c, l[j]? = some c := ⟨_, List.getElem?_eq_getElem (by omega)⟩
   have hm := List.mem_of_getElem? hc
   obtain ⟨sb, so, rfl, hrw⟩ := (HC.out.later HB.out).getS hc
   have hsv := hrw.seven hc
   have hsh := (HP.out c hm).ok.shape
   have hpc := (HP.out c hm).later HB.out
   have HLC : Hid (Calls Tryz.prog 26 #[c.v] wr fun e w' => ∃ d : Cm, e = .returned d.v /\ d.key = c.key /\ Lent wr.heap.size w' d /\ Below wr.heap.size wr w') := lendC_any c wr hpc.ok hpc.hh hpc.hp hpc.ht hpc.hs (HBH.out.later HB.out)
   have HKN : Hid (∀ d : Cm, d.key = c.key -> (LB ++ [d]).map Cm.key = (l.take (j + 1)).map Cm.key) := fun d hd => by rw [List.map_append, HK.out, List.take_add_one, hc, List.map_append]; simp [hd]
   have HTS : Hid (∀ d : Cm, d.key = c.key -> (Ck.terms d.key).length <= 4000000) := fun d hd => by rw [hd]; exact hpc.hs
   obtain ⟨KC, hKC⟩ : ∃ K, c.key = K := ⟨_, rfl⟩
   rw [hKC] at HLC HKN HTS
   clear hc hm hrw hpc hKC HK
   obtain ⟨⟨⟨⟨zk, zm, zs⟩, zn, zl⟩, zx⟩, zb, zbv, zt, ztv⟩ := c
   simp only at hsv hsh
   obtain ⟨⟨z1, z2, z3, e1⟩, ⟨z4, z6, e2⟩, ⟨z7, z9, e3⟩, -, -⟩ := hsh
   obtain ⟨z5, h5⟩ : ∃ n, zb.length = n := ⟨_, rfl⟩
   obtain ⟨z8, h8⟩ : ∃ n, zt.length = n := ⟨_, rfl⟩
   rw [h5] at e2
   rw [h8] at e3
   subst e1 e2 e3
   clear h5 h8
   obtain ⟨c0, g1, g2, g3, g4, g5, g6⟩ := hsv
   go_wp2_with (first
    | (go_at_call 26; refine HLC.out.mono ?_; rintro e w1 ⟨d, rfl, hdk, hkp, hb3⟩; have hok1 := hkp.okk (HTS.out d hdk); obtain ⟨⟨d1, d2, d3, f1⟩, ⟨d4, d6, f2⟩, ⟨d7, d9, f3⟩, -, -⟩ := hok1.shape; obtain ⟨⟨⟨⟨dk, dm, ds⟩, dn, dl⟩, dv⟩, db, dbv, dt, dtv⟩ := d; simp only at f1 f2 f3; obtain ⟨d5, hd5⟩ : ∃ n, db.length = n := ⟨_, rfl⟩; obtain ⟨d8, hd8⟩ : ∃ n, dt.length = n := ⟨_, rfl⟩; rw [hd5] at f2; rw [hd8] at f3; subst f1 f2 f3; clear hd5 hd8; have HKK := HKN.out _ hdk; have HKK : Hid ((LB ++ [(⟨(⟨⟨dk, dm, ds⟩, dn, dl⟩, .slice d1 d2 d3), db, .slice d4 d5 d6, dt, .slice d7 d8 d9⟩ : Cm)]).map Cm.key = (l.take (j + 1)).map Cm.key) := HKK; have HOK : Hid (Cm.ok w1 ⟨(⟨⟨dk, dm, ds⟩, dn, dl⟩, .slice d1 d2 d3), db, .slice d4 d5 d6, dt, .slice d7 d8 d9⟩) := hok1; have HKD : Hid (Lent wr.heap.size w1 ⟨(⟨⟨dk, dm, ds⟩, dn, dl⟩, .slice d1 d2 d3), db, .slice d4 d5 d6, dt, .slice d7 d8 d9⟩) := hkp; have HB3 : Hid (Below w.heap.size w (w1.alloc (.cells #[.int .i64 dk, .int .i64 dm, .string ds, .string dn, .slice d1 d2 d3, .slice d4 d5 d6, .slice d7 d8 d9] 60))) := below_step (below_step HB.out hb3) (below1 _ _); have HOA : Hid (LAC w.heap.size (w1.alloc (.cells #[.int .i64 dk, .int .i64 dm, .string ds, .string dn, .slice d1 d2 d3, .slice d4 d5 d6, .slice d7 d8 d9] 60)) u3 LB) := HLA.out.later (below_step hb3 (below1 _ _)); have HG : Hid (CBlk (w1.alloc (.cells #[.int .i64 dk, .int .i64 dm, .string ds, .string dn, .slice d1 d2 d3, .slice d4 d5 d6, .slice d7 d8 d9] 60)) w1.heap.size #[.int .i64 dk, .int .i64 dm, .string ds, .string dn, .slice d1 d2 d3, .slice d4 d5 d6, .slice d7 d8 d9] 60) := CBlk.new _ _ _; clear hdk hkp hb3 hok1 HLC HKN HTS)
    | (at_builtin; refine capp_one rfl _ _ rfl w.heap.size u3 LB (by rfl) HOA.out.o w1.heap.size ⟨(⟨⟨dk, dm, ds⟩, dn, dl⟩, .slice d1 d2 d3), db, .slice d4 d5 d6, dt, .slice d7 d8 d9⟩ (by rfl) HG.out HOK.out (by omega) HB3.out.size ?_; intro v4 w4 hown hb4 hg4 ha4; have HO4 : Hid (LAC w.heap.size w4 v4 (LB ++ [⟨(⟨⟨dk, dm, ds⟩, dn, dl⟩, .slice d1 d2 d3), db, .slice d4 d5 d6, dt, .slice d7 d8 d9⟩])) := HOA.out.add (fun Y hY => HKD.out.gr HB.out.size (fun k hk => (HLA.out.o.lt k hk).2) hY) hown hg4 ha4; have HB4 : Hid (Below w.heap.size w w4) := HB3.out.trans hb4; clear hown hb4 hg4 ha4 HOA HG))
   go_roundg g
   case measure => omega
   case rel => exact ⟨j + 1, _, by omega, by go_num, by simp only [List.length_append, List.length_singleton]; omega, HKK.out, HO4.out, HB4.out⟩
  | zero =>
   have hjl : j = l.length := by omega
   have hz : ¬ ((j : Int) < (l.length : Int)) := by omega
   have HFF : Hid (LB.map Cm.key = l.map Cm.key) := by have := HK.out; rw [hjl, List.take_length] at this; exact this
   have HG : Hid (CBlk (wr.alloc (.cells #[.int .i64 0, .int .i64 0, .string ⟨#[]⟩, .string ⟨#[98, 101, 104, 105, 110, 100]⟩, .slice none 0 0, .slice none 0 0, .slice none 0 0] 60)) wr.heap.size #[.int .i64 0, .int .i64 0, .string ⟨#[]⟩, .string ⟨#[98, 101, 104, 105, 110, 100]⟩, .slice none 0 0, .slice none 0 0, .slice none 0 0] 60) := CBlk.new _ _ _
   have HL1 : Hid (LAC w.heap.size (wr.alloc (.cells #[.int .i64 0, .int .i64 0, .string ⟨#[]⟩, .string ⟨#[98, 101, 104, 105, 110, 100]⟩, .slice none 0 0, .slice none 0 0, .slice none 0 0] 60)) u3 LB) := HLA.out.later (below1 _ _)
   have HB3 : Hid (Below w.heap.size w (wr.alloc (.cells #[.int .i64 0, .int .i64 0, .string ⟨#[]⟩, .string ⟨#[98, 101, 104, 105, 110, 100]⟩, .slice none 0 0, .slice none 0 0, .slice none 0 0] 60))) := below_step HB.out (below1 _ _)
   have HLB : Hid (LB.length = l.length) := by show _ = _; omega
   clear HK
   go_wp2_with (at_builtin; refine capp_one rfl _ _ rfl w.heap.size u3 LB (by rfl) HL1.out.o wr.heap.size bC (by rfl) HG.out (bC_ok w) (by omega) HB3.out.size ?_; intro v' w4 hown hb3 hg3 ha3; obtain ⟨g, cap2, rfl, hcap⟩ := ownC_some hown; have hcap' : (l.length : Int) <= (cap2 : Int) := (by have := HLB.out; omega); have hll : (l.length : Int) = (LB.length : Int) := (by have := HLB.out; omega); have HO4 : Hid (OwnC w4 w.heap.size (.slice (some ⟨g, 0, none⟩) (LB.length + 1) cap2) (LB ++ [bC])) := hown; have HT4 : Hid (∀ x ∈ LB, Lent w.heap.size w4 x) := (fun x hx => HL1.out.s x hx w4 hg3); have HW4 : Hid (Below w.heap.size w w4) := HB3.out.trans hb3; clear hown hb3 hg3 ha3 HL1 HG)
   go_ret
   exact ⟨_, rfl, LB, HFF.out, ⟨⟨g, cap2, by rw [HLB.out]; rfl, HO4.out⟩, HT4.out⟩, HW4.out⟩
end Go.Proofs.YtcejljehjhlonaaGreatDoor
namespace Go.Proofs.YtcejljehjhlonaaGreatDoor
open Go.RowKit
attribute [local go_sem ↓] Go.wp_at_zero Go.wp_at_succ

theorem run_eql_te (t u : Te) (w : World) (h : t = u) : (binOp .eql 73 t.v u.v).run Tryz.prog w = .ok (.bool true) w := by
 subst h
 obtain ⟨op, ⟨kl, ml, sl⟩, ⟨kr, mr, sr⟩⟩ := t
 go_simp
set_option maxRecDepth 20000 in
set_option maxHeartbeats 4000000 in
theorem keptC_any (d c : Cm) (base : Nat) (w : World) (h : c.ok w) (hd : Lent base w d) (hk : d.key = c.key) (hs : (Ck.terms c.key).length <= 4000000) (hB : BehOk w) :
  Calls Tryz.prog 31 #[d.v, c.v] w fun e w' => e = .returned (.bool true) /\ Below w.heap.size w w' := by
 obtain ⟨s1, s2, s3, s4⟩ := cm_sizes hs
 have k1 : d.head.1 = c.head.1 := congrArg (fun k : Ck => k.1) hk
 have k2 : fsts d.body = fsts c.body := congrArg (fun k : Ck => k.2.1) hk
 have k3 : d.tests = c.tests := congrArg (fun k : Ck => k.2.2) hk
 have hdh := hd.h
 have hdt := hd.t
 rw [k1] at hdh
 rw [k3] at hdt
 have HK1 : Hid (∀ X : World, Below w.heap.size w X -> Calls Tryz.prog 16 #[c.head.1.v d.head.2, c.head.1.v c.head.2] X fun e w' => e = .returned (.bool true) /\ Below X.heap.size X w') := fun X hX => keptA_any c.head.1 d.head.2 c.head.2 base X (h.h.later hX) (hdh.later hX) (hB.later hX)
 have HK2 : Hid (∀ X : World, Below w.heap.size w X -> Calls Tryz.prog 53 #[d.bv, c.bv] X fun e w' => e = .returned (.bool true) /\ Below X.heap.size X w') := fun X hX => keptAs_any c.body d.body d.bv c.bv base X (h.b.later hX) (hd.b.later hX) k2 (hB.later hX)
 have HK3 : Hid (∀ X : World, Below w.heap.size w X -> Calls Tryz.prog 54 #[d.tv, c.tv] X fun e w' => e = .returned (.bool true) /\ Below X.heap.size X w') := fun X hX => by
  have := sameTests_any c.tests c.tests d.tv c.tv X ((hdt.es (by omega)).later hX) (h.t.later hX)
  rw [decide_eq_true rfl] at this; exact this
 have HT : Hid (LentE w base d.tv c.tests) := hdt
 have HB : Hid (BehOk w) := hB
 obtain ⟨g1, cap1, e1, -⟩ := hdh
 obtain ⟨⟨g2, cap2, e2, -⟩, -⟩ := hd.b
 obtain ⟨g3, cap3, e3, ho3⟩ := hdt
 have hcap := ownE_cap ho3
 rw [List.length_append, List.length_singleton] at hcap
 have HO3 : Hid (OwnE w base (.slice (some ⟨g3, 0, none⟩) (c.tests.length + 1) cap3) (c.tests ++ [bE])) := ho3
 obtain ⟨⟨a, hn, cap, h1⟩, ⟨a', cap', h2⟩, ⟨a'', cap'', h3⟩, -, -⟩ := h.shape
 have hb0 : CBlk ((w.alloc (.cells d.cs 60)).alloc (.cells c.cs 60)) w.heap.size d.cs 60 := (CBlk.new w d.cs 60).later (below1 _ _)
 have hb1 : CBlk ((w.alloc (.cells d.cs 60)).alloc (.cells c.cs 60)) (w.heap.size + 1) c.cs 60 := by
  have := CBlk.new (w.alloc (.cells d.cs 60)) c.cs 60
  rwa [show (w.alloc (.cells d.cs 60)).heap.size = w.heap.size + 1 by simp] at this
 have HC0 : Hid (CBlk ((w.alloc (.cells d.cs 60)).alloc (.cells c.cs 60)) w.heap.size d.cs 60) := hb0
 have HC1 : Hid (CBlk ((w.alloc (.cells d.cs 60)).alloc (.cells c.cs 60)) (w.heap.size + 1) c.cs 60) := hb1
 have he := fun X => run_eql_te ⟨903, ⟨0, 0, ⟨#[]⟩⟩, ⟨0, 0, ⟨#[]⟩⟩⟩ ⟨903, ⟨0, 0, ⟨#[]⟩⟩, ⟨0, 0, ⟨#[]⟩⟩⟩ X rfl
 clear h hd hk hs hB s1 s2 s4 hb0 hb1 ho3 k2
 obtain ⟨⟨dh, dv⟩, db, dbv, dt, dtv⟩ := d
 obtain ⟨⟨⟨⟨k, m, s⟩, nm, ls⟩, hx⟩, body, bv, tests, tv⟩ := c
 simp only at h1 h2 h3 e1 e2 e3 k1 k3 s3 hcap HK1 HK2 HK3 HO3
 subst h1 h2 h3 e1 e2 e3 k1 k3
 have i0 : (0 : Int) <= (dt.length : Int) := by omega
 have i1 : (dt.length : Int) < (dt.length : Int) + 1 := by omega
 have hcap' : (dt.length : Int) + 1 <= (cap3 : Int) := by omega
 go_enter Tryz.func31, Tryz.ntmps31
 go_wp2_with (first
  | (go_at_call 16; refine (HK1.out _ (below2 _ _ _)).mono ?_; rintro e w1 ⟨rfl, hb⟩; have HW1 : Hid (Below w.heap.size w w1) := below_step (below2 _ _ _) hb; have HD0 : Hid (CBlk w1 w.heap.size _ 60) := HC0.out.later hb; have HD1 : Hid (CBlk w1 (w.heap.size + 1) _ 60) := HC1.out.later hb; obtain ⟨c0, c1, c2, c3, c4, c5, c6⟩ := cseven HD0.out; obtain ⟨e0, e1, e2, e3, e4, e5, e6⟩ := cseven HD1.out; clear hb HC0 HC1)
  | (go_at_call 53; refine (HK2.out _ HW1.out).mono ?_; rintro e w2 ⟨rfl, hb⟩; have HW2 : Hid (Below w.heap.size w w2) := below_step HW1.out hb; have HE0 : Hid (CBlk w2 w.heap.size _ 60) := HD0.out.later hb; have HE1 : Hid (CBlk w2 (w.heap.size + 1) _ 60) := HD1.out.later hb; clear c0 c1 c2 c3 c4 c5 c6 e0 e1 e2 e3 e4 e5 e6; obtain ⟨c0, c1, c2, c3, c4, c5, c6⟩ := cseven HE0.out; obtain ⟨e0, e1, e2, e3, e4, e5, e6⟩ := cseven HE1.out; clear hb HD0 HD1 HW1)
  | (go_at_call 54; refine (HK3.out _ HW2.out).mono ?_; rintro e w3 ⟨rfl, hb⟩; have HW3 : Hid (Below w.heap.size w w3) := below_step HW2.out hb; have HF0 : Hid (CBlk w3 w.heap.size _ 60) := HE0.out.later hb; have HF1 : Hid (CBlk w3 (w.heap.size + 1) _ 60) := HE1.out.later hb; clear c0 c1 c2 c3 c4 c5 c6 e0 e1 e2 e3 e4 e5 e6; obtain ⟨c0, c1, c2, c3, c4, c5, c6⟩ := cseven HF0.out; obtain ⟨e0, e1, e2, e3, e4, e5, e6⟩ := cseven HF1.out; obtain ⟨-, -, -, -, -, b0, b1, b2, b3, b4, b5, b6⟩ := HB.out.later HW3.out; have hgl : (dt ++ [bE])[dt.length]? = some bE := (by simp); have hoL := HO3.out.later HW3.out; have q0 := hoL.cells dt.length _ hgl 0 (by omega); have q1 := hoL.cells dt.length _ hgl 1 (by omega); have q2 := hoL.cells dt.length _ hgl 2 (by omega); have q3 := hoL.cells dt.length _ hgl 3 (by omega); have q4 := hoL.cells dt.length _ hgl 4 (by omega); have q5 := hoL.cells dt.length _ hgl 5 (by omega); have q6 := hoL.cells dt.length _ hgl 6 (by omega); simp only [ecell, bE, zt, List.getElem?_cons_succ, List.getElem?_cons_zero, Nat.add_zero] at q0 q1 q2 q3 q4 q5 q6; clear hb HE0 HE1 HW2 hoL hgl))
 go_quiet (fail)
 go_wp2
 go_ret
 exact ⟨ret_b rfl, below_drewN HW3.out _⟩
end Go.Proofs.YtcejljehjhlonaaGreatDoor
namespace Go.Proofs.YtcejljehjhlonaaGreatDoor
open Go.RowKit

theorem LentC.later {X X' : World} {B : Nat} {u : Value} {LB : List Cm} (h : LentC X B u LB) (hb : Below X.heap.size X X') : LentC X' B u LB := by
 obtain ⟨⟨g, cap, e, ho⟩, ht⟩ := h
 exact ⟨⟨g, cap, e, ho.later hb⟩, fun d hd => (ht d hd).later hb⟩
theorem LentC.csp {X : World} {B : Nat} {u : Value} {LB : List Cm} (h : LentC X B u LB) (hs : ∀ d ∈ LB, (Ck.terms d.key).length <= 4000000) : CsP X u LB := by
 obtain ⟨⟨g, cap, rfl, ho⟩, ht⟩ := h
 refine ⟨Or.inr ⟨⟨g, 0, none⟩, cap, rfl, ?_⟩, fun d hd => (ht d hd).okk (hs d hd)⟩
 obtain ⟨b, o, e, hr⟩ := ho.adr (j := LB.length) (c := bC) (by simp)
 cases e
 exact Or.inr ⟨g, 0, rfl, hr.1, fun i c hc => hr.2 i c (by rw [List.getElem?_append_left (List.getElem?_eq_some_iff.1 hc).1]; exact hc)⟩
set_option maxRecDepth 20000 in
set_option maxHeartbeats 4000000 in
theorem keptCs_any (p LB : List Cm) (v y : Value) (base : Nat) (w : World) (h : CsP w y p) (hs : ∀ c ∈ p, (Ck.terms c.key).length <= 4000000) (ho : LentC w base v LB) (hk : LB.map Cm.key = p.map Cm.key) (hB : BehOk w) (hl : p.length <= 1000000000) :
  Calls Tryz.prog 15 #[v, y] w fun e w' => e = .returned (.bool true) /\ Below w.heap.size w w' := by
 have hlen : LB.length = p.length := by have := congrArg List.length hk; simpa using this
 have HLO : Hid (LentC w base v LB) := ho
 have HP : Hid (CsP w y p) := h
 have HS : Hid (∀ c ∈ p, (Ck.terms c.key).length <= 4000000) := hs
 have HK : Hid (LB.map Cm.key = p.map Cm.key) := hk
 have HB : Hid (BehOk w) := hB
 have HLL : Hid (LB.length = p.length) := hlen
 obtain ⟨ua, uc, rfl⟩ := h.form
 obtain ⟨⟨g0, cap, rfl, ho⟩, ht⟩ := ho
 have HO : Hid (OwnC w base (.slice (some ⟨g0, 0, none⟩) (LB.length + 1) cap) (LB ++ [bC])) := ho
 have HT : Hid (∀ d ∈ LB, Lent base w d) := ht
 have hcap : LB.length + 1 <= cap := by
  obtain ⟨g, cp, e, hc⟩ := ownC_some ho
  simp only [Value.slice.injEq] at e; omega
 have hcap' : (p.length : Int) + 1 <= (cap : Int) := by omega
 have hq3 : ((p.length : Int) != (p.length : Int)) = false := by simp
 rw [hlen]
 clear h hs ho hk hB ht hlen hcap HLO
 go_enter Tryz.func15, Tryz.ntmps15
 go_wp2
 go_loopg [5] p.length (fun g i wr => ∃ j : Nat, j + g = p.length /\ i = .int .i64 (j : Int) /\ Below w.heap.size w wr)
 case atStart => exact ⟨0, by omega, rfl, Below.refl _ _⟩
 case round =>
  obtain ⟨j, hj, rfl, hb⟩ := hrel
  have HBr : Hid (Below w.heap.size w wr) := hb
  clear hb
  obtain ⟨b', o', eg, hrow⟩ := (HO.out.later HBr.out).adr (j := LB.length) (c := bC) (by simp)
  cases eg
  have HROW : Hid (CRow wr g0 0 (LB ++ [bC])) := hrow
  clear hrow
  cases gk with
  | succ g =>
   have i1 : (j : Int) < (p.length : Int) := by omega
   have i0 : (0 : Int) <= (j : Int) := by omega
   obtain ⟨x, hx⟩ : ∃ t, LB[j]? = some t := ⟨_, List.getElem?_eq_getElem (by have := HLL.out; omega)⟩
   obtain ⟨y, hy⟩ : ∃ u, p[j]? = some u := ⟨_, List.getElem?_eq_getElem (by omega)⟩
   have hxy : x.key = y.key := by
    have e : (LB.map Cm.key)[j]? = (p.map Cm.key)[j]? := by rw [HK.out]
    rw [List.getElem?_map, List.getElem?_map, hx, hy] at e
    exact Option.some.inj e
   have mx := List.mem_of_getElem? hx
   have my := List.mem_of_getElem? hy
   obtain ⟨sd, sq, rfl, hrwy⟩ := (HP.out.later HBr.out).get hy
   have hsvx := HROW.out.seven (j := j) (c := x) (by rw [List.getElem?_append_left (List.getElem?_eq_some_iff.1 hx).1]; exact hx)
   simp only [Nat.zero_add] at hsvx
   have hzx := HROW.out.1
   have hsvy := hrwy.seven hy
   have hzy := hrwy.1
   have hshx := ((HT.out x mx).okk (by rw [hxy]; exact HS.out y my)).shape
   have hshy := (HP.out.ok y my).shape
   have HCS0 := fun (Y : World) (hY : Below wr.heap.size wr Y) => keptC_any x y base Y ((HP.out.ok y my).later (below_step HBr.out hY)) ((HT.out x mx).later (below_step HBr.out hY)) hxy (HS.out y my) (HB.out.later (below_step HBr.out hY))
   clear hx hy mx my hxy hrwy HROW
   obtain ⟨⟨⟨⟨xk, xm, xs⟩, xn, xl⟩, xx⟩, xb, xbv, xt, xtv⟩ := x
   simp only at hsvx hshx
   obtain ⟨⟨x1, x2, x3, e1⟩, ⟨x4, x6, e2⟩, ⟨x7, x9, e3⟩, -, -⟩ := hshx
   obtain ⟨x5, h5⟩ : ∃ n, xb.length = n := ⟨_, rfl⟩
   obtain ⟨x8, h8⟩ : ∃ n, xt.length = n := ⟨_, rfl⟩
   rw [h5] at e2
   rw [h8] at e3
   subst e1 e2 e3
   clear h5 h8
   obtain ⟨⟨⟨⟨yk, ym, ys⟩, yn, yl⟩, yx⟩, yb, ybv, yt, ytv⟩ := y
   simp only at hsvy hshy
   obtain ⟨⟨y1, y2, y3, e1⟩, ⟨y4, y6, e2⟩, ⟨y7, y9, e3⟩, -, -⟩ := hshy
   obtain ⟨y5, h5⟩ : ∃ n, yb.length = n := ⟨_, rfl⟩
   obtain ⟨y8, h8⟩ : ∃ n, yt.length = n := ⟨_, rfl⟩
   rw [h5] at e2
   rw [h8] at e3
   subst e1 e2 e3
   clear h5 h8
   obtain ⟨q0, q1, q2, q3, q4, q5, q6⟩ := hsvx
   have HQ := conj7 q0 q1 q2 q3 q4 q5 q6
   have HQz : Hid (g0 < wr.heap.size) := hzx
   clear q0 q1 q2 q3 q4 q5 q6 hzx
   obtain ⟨q0, q1, q2, q3, q4, q5, q6⟩ := hsvy
   have HR := conj7 q0 q1 q2 q3 q4 q5 q6
   have HRz : Hid (sd < wr.heap.size) := hzy
   clear q0 q1 q2 q3 q4 q5 q6 hzy
   have HCS : Hid (∀ Y : World, Below wr.heap.size wr Y -> Calls Tryz.prog 31 #[.agg #[.int .i64 xk, .int .i64 xm, .string xs, .string xn, .slice x1 x2 x3, .slice x4 x5 x6, .slice x7 x8 x9], .agg #[.int .i64 yk, .int .i64 ym, .string ys, .string yn, .slice y1 y2 y3, .slice y4 y5 y6, .slice y7 y8 y9]] Y fun e w' => e = .returned (.bool true) /\ Below Y.heap.size Y w') := HCS0
   clear HCS0
   go_upto_region 6 with fail
   refine wp_region_held_drew (S := fun w' => Below wr.heap.size wr w') (by kernel_rfl) (Below.refl _ _).drew (fun hH => ?_)
   revert hH
   generalize wr.drew = V
   intro hH
   refine wTk 0 (.slice (some ⟨g0, 0, none⟩) p.length cap) rfl (by kernel_rfl) (fun _ _ _ h => h) (Or.inl ⟨by rfl, fun w' _ => by go_simp⟩) hH ?_
   simp only [wA8, wB8, wC8, wD8]
   refine wTk 1 (.int .i64 (j : Int)) rfl (by kernel_rfl) (fun _ _ _ h => h) (Or.inl ⟨by rfl, fun w' _ => by go_simp⟩) hH ?_
   simp only [wA8, wB8, wC8, wD8]
   refine wTk 2 (.pointer (some ⟨g0, j * 7, none⟩)) rfl (by kernel_rfl) (fun _ _ _ h => h) (Or.inl ⟨by rfl, fun w' _ => by go_simp⟩) hH ?_
   simp only [wA8, wB8, wC8, wD8]
   refine wTk 3 (.agg #[.int .i64 xk, .int .i64 xm, .string xs, .string xn, .slice x1 x2 x3, .slice x4 x5 x6, .slice x7 x8 x9]) rfl (by kernel_rfl) (fun _ _ _ h => h) (Or.inl ⟨by rfl, fun w' h => by obtain ⟨q0, q1, q2, q3, q4, q5, q6⟩ := Hid.out HQ; have z := Hid.out HQz; have y0 := cell_step h z q0; have y1 := cell_step h z q1; have y2 := cell_step h z q2; have y3 := cell_step h z q3; have y4 := cell_step h z q4; have y5 := cell_step h z q5; have y6 := cell_step h z q6; clear q0 q1 q2 q3 q4 q5 q6; go_simp⟩) hH ?_
   simp only [wA8, wB8, wC8, wD8]
   refine wTk 4 (.slice (some ⟨sd, sq, none⟩) p.length uc) rfl (by kernel_rfl) (fun _ _ _ h => h) (Or.inl ⟨by rfl, fun w' _ => by go_simp⟩) hH ?_
   simp only [wA8, wB8, wC8, wD8]
   refine wTk 5 (.int .i64 (j : Int)) rfl (by kernel_rfl) (fun _ _ _ h => h) (Or.inl ⟨by rfl, fun w' _ => by go_simp⟩) hH ?_
   simp only [wA8, wB8, wC8, wD8]
   refine wTk 6 (.pointer (some ⟨sd, sq + j * 7, none⟩)) rfl (by kernel_rfl) (fun _ _ _ h => h) (Or.inl ⟨by rfl, fun w' _ => by go_simp⟩) hH ?_
   simp only [wA8, wB8, wC8, wD8]
   refine wTk 7 (.agg #[.int .i64 yk, .int .i64 ym, .string ys, .string yn, .slice y1 y2 y3, .slice y4 y5 y6, .slice y7 y8 y9]) rfl (by kernel_rfl) (fun _ _ _ h => h) (Or.inl ⟨by rfl, fun w' h => by obtain ⟨q0, q1, q2, q3, q4, q5, q6⟩ := Hid.out HR; have z := Hid.out HRz; have y0 := cell_step h z q0; have y1 := cell_step h z q1; have y2 := cell_step h z q2; have y3 := cell_step h z q3; have y4 := cell_step h z q4; have y5 := cell_step h z q5; have y6 := cell_step h z q6; clear q0 q1 q2 q3 q4 q5 q6; go_simp⟩) hH ?_
   simp only [wA8, wB8, wC8, wD8]
   refine wRd 8 (by kernel_rfl) rfl (fun K hK => ?_)
   go_simp
   refine (HCS.out _ hH).mono ?_
   rintro e V1 ⟨rfl, hb⟩
   refine hK.out _ _ (below_step hH hb) (fun hH => ?_)
   clear hK K hb
   refine wTk 9 (.bool false) rfl (by kernel_rfl) (fun _ _ _ h => h) (Or.inl ⟨by rfl, fun w' _ => by go_simp⟩) hH ?_
   simp only [wA8, wB8, wC8, wD8]
   refine wpAnyH_done (by kernel_rfl) ?_ _
   have HV : Hid (Below wr.heap.size wr V1) := hH
   clear hH
   go_wp2
   go_roundg g
   case measure => omega
   case rel => exact ⟨j + 1, by omega, by go_num, below_step HBr.out HV.out⟩
  | zero =>
   have hz : ¬ ((j : Int) < (p.length : Int)) := by omega
   have i1 : (p.length : Int) < (p.length : Int) + 1 := by omega
   have i0 : (0 : Int) <= (p.length : Int) := by omega
   have hsv := HROW.out.seven (j := p.length) (c := bC) (by rw [<- HLL.out]; simp)
   simp only [Nat.zero_add, bC] at hsv
   obtain ⟨q0, q1, q2, q3, q4, q5, q6⟩ := hsv
   clear HROW
   go_wp2
   go_ret
   exact ⟨rfl, HBr.out⟩
end Go.Proofs.YtcejljehjhlonaaGreatDoor
