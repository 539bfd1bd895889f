import Derived.Test.YtcejljehjhlonaaGreatDoorCP0
import Derived.Test.YtcejljehjhlonaaGreatDoorLD4
namespace Go.Proofs.YtcejljehjhlonaaGreatDoor
open Go.RowKit

def bC : Cm := ⟨(⟨zt, ⟨#[98, 101, 104, 105, 110, 100]⟩, []⟩, .slice none 0 0), [], .slice none 0 0, [], .slice none 0 0⟩
theorem bC_ok (w : World) : bC.ok w := ⟨⟨none, 0, rfl, by simp [bC], Or.inl rfl⟩, ⟨none, 0, rfl, by simp [bC], Or.inl rfl, fun x hx => by simp [bC] at hx⟩, ⟨none, 0, rfl, by simp [bC], Or.inl rfl⟩⟩
theorem Lent.agree {B : Nat} {X Y : World} {d : Cm} (h : Lent B X d) (hs : X.heap.size <= Y.heap.size) (ha : ∀ b, B <= b -> b < X.heap.size -> Y.heap[b]? = X.heap[b]?) : Lent B Y d := by
 have hA : Ag B X.heap.size X Y := ⟨hs, fun k h1 h2 _ => ha k h1 h2⟩
 refine ⟨h.h.ag hA (fun k hk => by have := (h.h.lt k hk).2; omega), h.b.ag hA (fun k hk => by have := (h.b.lt k hk).2; omega) (fun x hx k hk => by have := ((h.b.2 x hx).lt k hk).2; omega), ?_⟩
 obtain ⟨g, cap, e, ho⟩ := h.t
 exact ⟨g, cap, e, ho.agree ha⟩
theorem Lent.mono {B B' : Nat} {X : World} {d : Cm} (h : Lent B X d) (hb : B' <= B) : Lent B' X d := by
 refine ⟨h.h.mono hb, h.b.mono hb, ?_⟩
 obtain ⟨g, cap, e, ho⟩ := h.t
 exact ⟨g, cap, e, ho.mono hb⟩
theorem CsP.getS {w : World} {a : Option Addr} {n cap j : Nat} {l : List Cm} {c : Cm} (h : CsP w (.slice a n cap) l) (hc : l[j]? = some c) : ∃ b o, a = some ⟨b, o, none⟩ /\ CRow w b o l := by
 rcases h.m with ⟨e, rfl⟩ | ⟨ad, cap', e, h2⟩
 ·simp at hc
 ·simp only [Value.slice.injEq] at e
  obtain ⟨rfl, -, -⟩ := e
  rcases h2 with rfl | ⟨b, o, rfl, h2⟩
  ·simp at hc
  ·exact ⟨b, o, rfl, h2⟩
structure LAC (B : Nat) (X : World) (v : Value) (l : List Cm) : Prop where
 o : OwnC X B v l
 s : ∀ c ∈ l, ∀ Y : World, X.grownBy Y v.ownBlock -> Lent B Y c
theorem LAC.nil (B : Nat) (X : World) : LAC B X (.slice none 0 0) [] := ⟨OwnC.nil _ _, fun c hc => by cases hc⟩
theorem LAC.later {B : Nat} {X X' : World} {v : Value} {l : List Cm} (h : LAC B X v l) (hb : Below X.heap.size X X') : LAC B X' v l :=
 ⟨h.o.later hb, fun c hc Y hY => h.s c hc Y ((grown_of hb _).trans hY)⟩
theorem LAC.add {B : Nat} {X X' : World} {v v' : Value} {l : List Cm} {d : Cm} (H : LAC B X v l) (hd : ∀ Y, X.grownBy Y v.ownBlock -> Lent B Y d) (hown : OwnC X' B v' (l ++ [d])) (hg : X.grownBy X' v.ownBlock)
  (ha : ∀ k, v'.ownBlock = some k -> v.ownBlock = some k ∨ X.heap.size <= k) : LAC B X' v' (l ++ [d]) :=
 ⟨hown, fun c hc Y hY => by
  have hG : X.grownBy Y v.ownBlock := hg.andThen hY fun k hk => (ha k hk).symm
  rcases List.mem_append.1 hc with hc | hc
  ·exact H.s c hc Y hG
  ·rw [List.mem_singleton] at hc; subst hc; exact hd Y hG⟩
theorem Lent.gr {B C : Nat} {X Y : World} {d : Cm} {o : Obj} {row : Option Nat} (h : Lent B X d) (hC : C <= B) (hr : ∀ k, row = some k -> k < B) (hg : (X.alloc o).grownBy Y row) : Lent C Y d :=
 Lent.mono (h.agree (by have := hg.size; rw [show (X.alloc o).heap.size = X.heap.size + 1 by simp] at this; omega) fun b h1 h2 => by
  have := hg.block b (by rw [show (X.alloc o).heap.size = X.heap.size + 1 by simp]; omega) (fun e => by have := hr b e.symm; omega)
  rw [this, @heap_alloc_old _ _ _ h2]) hC
def LentC (X : World) (B : Nat) (u : Value) (LB : List Cm) : Prop := (∃ g cap, u = .slice (some ⟨g, 0, none⟩) LB.length cap /\ OwnC X B (.slice (some ⟨g, 0, none⟩) (LB.length + 1) cap) (LB ++ [bC])) /\ ∀ d ∈ LB, Lent B X d
theorem ownC_some {w : World} {base : Nat} {v : Value} {l : List Cm} {x : Cm} (h : OwnC w base v (l ++ [x])) : ∃ g cap, v = .slice (some ⟨g, 0, none⟩) (l.length + 1) cap /\ l.length + 1 <= cap := by
 rcases h.2 with ⟨-, hn⟩ | ⟨g, cap, cur, hv, hb, hg, hn, rest⟩
 ·simp at hn
 ·rw [List.length_append, List.length_singleton] at hv hn
  exact ⟨g, cap, hv, hn⟩
structure LP (w : World) (c : Cm) : Prop where
 ok : c.ok w
 hh : TsP w c.head.2 c.head.1.args
 hp : ∀ x ∈ c.body, TsP w x.2 x.1.args
 ht : EsP w c.tv c.tests
 hs : (Ck.terms c.key).length <= 4000000
theorem LP.later {w w' : World} {c : Cm} (h : LP w c) (hb : Below w.heap.size w w') : LP w' c := ⟨h.ok.later hb, h.hh.later hb, fun x hx => (h.hp x hx).later hb, h.ht.later hb, h.hs⟩
theorem Lent.okk {B : Nat} {X : World} {d : Cm} (h : Lent B X d) (hs : (Ck.terms d.key).length <= 4000000) : d.ok X := by
 obtain ⟨s1, s2, s3, s4⟩ := cm_sizes hs
 exact h.ok (by omega) (by omega) (fun y hy => by have := s4 y hy; omega) (by omega)
set_option maxRecDepth 20000 in
set_option maxHeartbeats 4000000 in
theorem lendCs_any (l : List Cm) (v : Value) (w : World) (h : CsP w v l) (hp : ∀ c ∈ l, LP w c) (hl : l.length <= 1000000000) (hB : BehOk w) :
  Calls Tryz.prog 11 #[v] w fun e w' => ∃ u LB, e = .returned u /\ LB.map Cm.key = l.map Cm.key /\ LentC w' w.heap.size u LB /\ Below w.heap.size w w' := by
 have HC : Hid (CsP w v l) := h
 have HP : Hid (∀ c ∈ l, LP w c) := hp
 have HBH : Hid (BehOk w) := hB
 obtain ⟨va, vc, rfl⟩ := h.form
 clear h hp hB
 go_enter Tryz.func11, Tryz.ntmps11
 go_wp2
 go_loopg [3, 4] l.length (fun g u i wr => ∃ (j : Nat) (LB : List Cm), j + g = l.length /\ i = .int .i64 (j : Int) /\ LB.length = j /\ LB.map Cm.key = (l.take j).map Cm.key /\ LAC w.heap.size wr u LB /\ Below w.heap.size w wr)
 case atStart => exact ⟨0, [], by omega, rfl, rfl, rfl, LAC.nil _ _, Below.refl _ _⟩
 case round =>
  obtain ⟨j, LB, hj, rfl, hlb, hkb, hla, hb⟩ := hrel
  have HLA : Hid (LAC w.heap.size wr u3 LB) := hla
  have HK : Hid (LB.map Cm.key = (l.take j).map Cm.key) := hkb
  have HB : Hid (Below w.heap.size w wr) := hb
  clear hkb hla hb
  cases gk with
  | succ g =>
   have i1 : (j : Int) < (l.length : Int) := by omega
   have i0 : (0 : Int) <= (j : Int) := by omega
   obtain ⟨c, hc⟩ : ∃ c, l[j]? = some c := ⟨_, List.getElem?_eq_getElem (by omega)⟩
   have hm := List.mem_of_getElem? hc
   obtain ⟨sb, so, rfl, hrw⟩ := (HC.out.later HB.out).getS hc
   have hsv := hrw.seven hc
   have hsh := (HP.out c hm).ok.shape
   have hpc := (HP.out c hm).later HB.out
   have HLC : Hid (Calls Tryz.prog 26 #[c.v] wr fun e w' => ∃ d : Cm, e = .returned d.v /\ d.key = c.key /\ Lent wr.heap.size w' d /\ Below wr.heap.size wr w') := lendC_any c wr hpc.ok hpc.hh hpc.hp hpc.ht hpc.hs (HBH.out.later HB.out)
   have HKN : Hid (∀ d : Cm, d.key = c.key -> (LB ++ [d]).map Cm.key = (l.take (j + 1)).map Cm.key) := fun d hd => by rw [List.map_append, HK.out, List.take_add_one, hc, List.map_append]; simp [hd]
   have HTS : Hid (∀ d : Cm, d.key = c.key -> (Ck.terms d.key).length <= 4000000) := fun d hd => by rw [hd]; exact hpc.hs
   obtain ⟨KC, hKC⟩ : ∃ K, c.key = K := ⟨_, rfl⟩
   rw [hKC] at HLC HKN HTS
   clear hc hm hrw hpc hKC HK
   obtain ⟨⟨⟨⟨zk, zm, zs⟩, zn, zl⟩, zx⟩, zb, zbv, zt, ztv⟩ := c
   simp only at hsv hsh
   obtain ⟨⟨z1, z2, z3, e1⟩, ⟨z4, z6, e2⟩, ⟨z7, z9, e3⟩, -, -⟩ := hsh
   obtain ⟨z5, h5⟩ : ∃ n, zb.length = n := ⟨_, rfl⟩
   obtain ⟨z8, h8⟩ : ∃ n, zt.length = n := ⟨_, rfl⟩
   rw [h5] at e2
   rw [h8] at e3
   subst e1 e2 e3
   clear h5 h8
   obtain ⟨c0, g1, g2, g3, g4, g5, g6⟩ := hsv
   go_wp2_with (first
    | (go_at_call 26; refine HLC.out.mono ?_; rintro e w1 ⟨d, rfl, hdk, hkp, hb3⟩; have hok1 := hkp.okk (HTS.out d hdk); obtain ⟨⟨d1, d2, d3, f1⟩, ⟨d4, d6, f2⟩, ⟨d7, d9, f3⟩, -, -⟩ := hok1.shape; obtain ⟨⟨⟨⟨dk, dm, ds⟩, dn, dl⟩, dv⟩, db, dbv, dt, dtv⟩ := d; simp only at f1 f2 f3; obtain ⟨d5, hd5⟩ : ∃ n, db.length = n := ⟨_, rfl⟩; obtain ⟨d8, hd8⟩ : ∃ n, dt.length = n := ⟨_, rfl⟩; rw [hd5] at f2; rw [hd8] at f3; subst f1 f2 f3; clear hd5 hd8; have HKK := HKN.out _ hdk; have HKK : Hid ((LB ++ [(⟨(⟨⟨dk, dm, ds⟩, dn, dl⟩, .slice d1 d2 d3), db, .slice d4 d5 d6, dt, .slice d7 d8 d9⟩ : Cm)]).map Cm.key = (l.take (j + 1)).map Cm.key) := HKK; have HOK : Hid (Cm.ok w1 ⟨(⟨⟨dk, dm, ds⟩, dn, dl⟩, .slice d1 d2 d3), db, .slice d4 d5 d6, dt, .slice d7 d8 d9⟩) := hok1; have HKD : Hid (Lent wr.heap.size w1 ⟨(⟨⟨dk, dm, ds⟩, dn, dl⟩, .slice d1 d2 d3), db, .slice d4 d5 d6, dt, .slice d7 d8 d9⟩) := hkp; have HB3 : Hid (Below w.heap.size w (w1.alloc (.cells #[.int .i64 dk, .int .i64 dm, .string ds, .string dn, .slice d1 d2 d3, .slice d4 d5 d6, .slice d7 d8 d9] 60))) := below_step (below_step HB.out hb3) (below1 _ _); have HOA : Hid (LAC w.heap.size (w1.alloc (.cells #[.int .i64 dk, .int .i64 dm, .string ds, .string dn, .slice d1 d2 d3, .slice d4 d5 d6, .slice d7 d8 d9] 60)) u3 LB) := HLA.out.later (below_step hb3 (below1 _ _)); have HG : Hid (CBlk (w1.alloc (.cells #[.int .i64 dk, .int .i64 dm, .string ds, .string dn, .slice d1 d2 d3, .slice d4 d5 d6, .slice d7 d8 d9] 60)) w1.heap.size #[.int .i64 dk, .int .i64 dm, .string ds, .string dn, .slice d1 d2 d3, .slice d4 d5 d6, .slice d7 d8 d9] 60) := CBlk.new _ _ _; clear hdk hkp hb3 hok1 HLC HKN HTS)
    | (at_builtin; refine capp_one rfl _ _ rfl w.heap.size u3 LB (by rfl) HOA.out.o w1.heap.size ⟨(⟨⟨dk, dm, ds⟩, dn, dl⟩, .slice d1 d2 d3), db, .slice d4 d5 d6, dt, .slice d7 d8 d9⟩ (by rfl) HG.out HOK.out (by omega) HB3.out.size ?_; intro v4 w4 hown hb4 hg4 ha4; have HO4 : Hid (LAC w.heap.size w4 v4 (LB ++ [⟨(⟨⟨dk, dm, ds⟩, dn, dl⟩, .slice d1 d2 d3), db, .slice d4 d5 d6, dt, .slice d7 d8 d9⟩])) := HOA.out.add (fun Y hY => HKD.out.gr HB.out.size (fun k hk => (HLA.out.o.lt k hk).2) hY) hown hg4 ha4; have HB4 : Hid (Below w.heap.size w w4) := HB3.out.trans hb4; clear hown hb4 hg4 ha4 HOA HG))
   go_roundg g
   case measure => omega
   case rel => exact ⟨j + 1, _, by omega, by go_num, by simp only [List.length_append, List.length_singleton]; omega, HKK.out, HO4.out, HB4.out⟩
  | zero =>
   have hjl : j = l.length := by omega
   have hz : ¬ ((j : Int) < (l.length : Int)) := by omega
   have HFF : Hid (LB.map Cm.key = l.map Cm.key) := by have := HK.out; rw [hjl, List.take_length] at this; exact this
   have HG : Hid (CBlk (wr.alloc (.cells #[.int .i64 0, .int .i64 0, .string ⟨#[]⟩, .string ⟨#[98, 101, 104, 105, 110, 100]⟩, .slice none 0 0, .slice none 0 0, .slice none 0 0] 60)) wr.heap.size #[.int .i64 0, .int .i64 0, .string ⟨#[]⟩, .string ⟨#[98, 101, 104, 105, 110, 100]⟩, .slice none 0 0, .slice none 0 0, .slice none 0 0] 60) := CBlk.new _ _ _
   have HL1 : Hid (LAC w.heap.size (wr.alloc (.cells #[.int .i64 0, .int .i64 0, .string ⟨#[]⟩, .string ⟨#[98, 101, 104, 105, 110, 100]⟩, .slice none 0 0, .slice none 0 0, .slice none 0 0] 60)) u3 LB) := HLA.out.later (below1 _ _)
   have HB3 : Hid (Below w.heap.size w (wr.alloc (.cells #[.int .i64 0, .int .i64 0, .string ⟨#[]⟩, .string ⟨#[98, 101, 104, 105, 110, 100]⟩, .slice none 0 0, .slice none 0 0, .slice none 0 0] 60))) := below_step HB.out (below1 _ _)
   have HLB : Hid (LB.length = l.length) := by show _ = _; omega
   clear HK
   go_wp2_with (at_builtin; refine capp_one rfl _ _ rfl w.heap.size u3 LB (by rfl) HL1.out.o wr.heap.size bC (by rfl) HG.out (bC_ok w) (by omega) HB3.out.size ?_; intro v' w4 hown hb3 hg3 ha3; obtain ⟨g, cap2, rfl, hcap⟩ := ownC_some hown; have hcap' : (l.length : Int) <= (cap2 : Int) := (by have := HLB.out; omega); have hll : (l.length : Int) = (LB.length : Int) := (by have := HLB.out; omega); have HO4 : Hid (OwnC w4 w.heap.size (.slice (some ⟨g, 0, none⟩) (LB.length + 1) cap2) (LB ++ [bC])) := hown; have HT4 : Hid (∀ x ∈ LB, Lent w.heap.size w4 x) := (fun x hx => HL1.out.s x hx w4 hg3); have HW4 : Hid (Below w.heap.size w w4) := HB3.out.trans hb3; clear hown hb3 hg3 ha3 HL1 HG)
   go_ret
   exact ⟨_, rfl, LB, HFF.out, ⟨⟨g, cap2, by rw [HLB.out]; rfl, HO4.out⟩, HT4.out⟩, HW4.out⟩
end Go.Proofs.YtcejljehjhlonaaGreatDoor
