import Derived.Test.YtnenadklmjcakaaGreatDoorL1
import Derived.Test.YtnenadklmjcakaaGreatDoorCE2
import Derived.Test.YtnenadklmjcakaaGreatDoorSD12
import Derived.Test.YtnenadklmjcakaaGreatDoorCL1
import Derived.Test.YtnenadklmjcakaaGreatDoorRC2
import Derived.Test.YtnenadklmjcakaaGreatDoorT4
import Derived.Deep.RegionHeld3
import Derived.Test.YtnenadklmjcakaaGreatDoorMD5
namespace Go.Proofs.YtnenadklmjcakaaGreatDoor

abbrev ltM (a b : At × List At × List Te) : Prop := cmpC a b < 0
structure Mrg (p q out : List (At × List At × List Te)) (i k : Nat) : Prop where
 rise : out.Pairwise ltM
 mem : ∀ x, x ∈ out ↔ x ∈ p.take i ∨ x ∈ q.take k
 lp : ∀ x ∈ out, ∀ j y, i <= j -> p[j]? = some y -> cmpC x y < 0
 lq : ∀ x ∈ out, ∀ j y, k <= j -> q[j]? = some y -> cmpC x y < 0
theorem Mrg.start (p q : List (At × List At × List Te)) : Mrg p q [] 0 0 := ⟨List.Pairwise.nil, (fun x => by simp), (fun x hx => by cases hx), (fun x hx => by cases hx)⟩
theorem ltM_tr {a b c : At × List At × List Te} (h1 : cmpC a b < 0) (h2 : cmpC b c <= 0) : cmpC a c < 0 := (ord_c.tr _ _ _ (by omega) h2).2 (Or.inl h1)
theorem rise_get {p : List (At × List At × List Te)} (h : p.Pairwise ltM) {i j : Nat} {x y : At × List At × List Te} (hij : i < j) (hx : p[i]? = some x) (hy : p[j]? = some y) : cmpC x y < 0 := by
 obtain ⟨h1, rfl⟩ := List.getElem?_eq_some_iff.1 hx
 obtain ⟨h2, rfl⟩ := List.getElem?_eq_some_iff.1 hy
 exact List.pairwise_iff_getElem.1 h i j h1 h2 hij
theorem mem_take {α : Type} {p : List α} {i : Nat} {x y : α} (h : p[i]? = some x) : y ∈ p.take (i + 1) ↔ y ∈ p.take i ∨ y = x := by
 rw [List.take_add_one, h]; simp
theorem rise_snoc {o : List (At × List At × List Te)} {x : At × List At × List Te} (h : o.Pairwise ltM) (hx : ∀ y ∈ o, cmpC y x < 0) : (o ++ [x]).Pairwise ltM :=
 List.pairwise_append.2 ⟨h, List.pairwise_singleton _ _, fun a ha b hb => by rw [List.mem_singleton] at hb; subst hb; exact hx a ha⟩
theorem Mrg.left {p q out : List (At × List At × List Te)} {i k : Nat} {x : At × List At × List Te} (h : Mrg p q out i k) (hp : p.Pairwise ltM) (hq : q.Pairwise ltM) (hx : p[i]? = some x) (hl : ∀ y, q[k]? = some y -> cmpC x y < 0) : Mrg p q (out ++ [x]) (i + 1) k := by
 have hx2 : ∀ y ∈ out, cmpC y x < 0 := fun y hy => h.lp y hy i x (Nat.le_refl _) hx
 refine ⟨rise_snoc h.rise hx2, fun y => ?_, fun y hy j z hj hz => ?_, fun y hy j z hj hz => ?_⟩
 ·rw [List.mem_append, h.mem, mem_take hx, List.mem_singleton]
  constructor
  ·rintro ((h | h) | h)
   ·exact Or.inl (Or.inl h)
   ·exact Or.inr h
   ·exact Or.inl (Or.inr h)
  ·rintro ((h | h) | h)
   ·exact Or.inl (Or.inl h)
   ·exact Or.inr h
   ·exact Or.inl (Or.inr h)
 ·rcases List.mem_append.1 hy with hy | hy
  ·exact h.lp y hy j z (by omega) hz
  ·rw [List.mem_singleton] at hy; subst hy; exact rise_get hp (by omega) hx hz
 ·rcases List.mem_append.1 hy with hy | hy
  ·exact h.lq y hy j z hj hz
  ·rw [List.mem_singleton] at hy; subst hy
   have hk : k < q.length := by have := (List.getElem?_eq_some_iff.1 hz).1; omega
   have h1 := hl _ (List.getElem?_eq_getElem hk)
   by_cases e : j = k
   ·subst e; exact hl z hz
   ·exact ltM_tr h1 (by have := rise_get hq (show k < j by omega) (List.getElem?_eq_getElem hk) hz; omega)
theorem Mrg.swap {p q out : List (At × List At × List Te)} {i k : Nat} (h : Mrg p q out i k) : Mrg q p out k i := ⟨h.rise, fun x => by rw [h.mem, or_comm], h.lq, h.lp⟩
theorem Mrg.right {p q out : List (At × List At × List Te)} {i k : Nat} {x : At × List At × List Te} (h : Mrg p q out i k) (hp : p.Pairwise ltM) (hq : q.Pairwise ltM) (hx : q[k]? = some x) (hl : ∀ y, p[i]? = some y -> cmpC x y < 0) : Mrg p q (out ++ [x]) i (k + 1) := (h.swap.left hq hp hx hl).swap
theorem Mrg.both {p q out : List (At × List At × List Te)} {i k : Nat} {x : At × List At × List Te} (h : Mrg p q out i k) (hp : p.Pairwise ltM) (hq : q.Pairwise ltM) (hx : p[i]? = some x) (hy : q[k]? = some x) : Mrg p q (out ++ [x]) (i + 1) (k + 1) := by
 have hx2 : ∀ y ∈ out, cmpC y x < 0 := fun y hy => h.lp y hy i x (Nat.le_refl _) hx
 refine ⟨rise_snoc h.rise hx2, fun y => ?_, fun y hy' j z hj hz => ?_, fun y hy' j z hj hz => ?_⟩
 ·rw [List.mem_append, h.mem, mem_take hx, mem_take hy, List.mem_singleton]
  constructor
  ·rintro ((h | h) | h)
   ·exact Or.inl (Or.inl h)
   ·exact Or.inr (Or.inl h)
   ·exact Or.inl (Or.inr h)
  ·rintro ((h | h) | (h | h))
   ·exact Or.inl (Or.inl h)
   ·exact Or.inr h
   ·exact Or.inl (Or.inr h)
   ·exact Or.inr h
 ·rcases List.mem_append.1 hy' with hy' | hy'
  ·exact h.lp y hy' j z (by omega) hz
  ·rw [List.mem_singleton] at hy'; subst hy'; exact rise_get hp (by omega) hx hz
 ·rcases List.mem_append.1 hy' with hy' | hy'
  ·exact h.lq y hy' j z (by omega) hz
  ·rw [List.mem_singleton] at hy'; subst hy'; exact rise_get hq (by omega) hy hz
theorem Mrg.done {p q out : List (At × List At × List Te)} {i k : Nat} (h : Mrg p q out i k) (hi : p.length <= i) (hk : q.length <= k) : out.Pairwise ltM /\ ∀ x, x ∈ out ↔ x ∈ p ∨ x ∈ q :=
 ⟨h.rise, fun x => by rw [h.mem, List.take_of_length_le hi, List.take_of_length_le hk]⟩
end Go.Proofs.YtnenadklmjcakaaGreatDoor
namespace Go.Proofs.YtnenadklmjcakaaGreatDoor
open Go.RowKit

theorem szs_key {c d : Cm} (h : d.key = c.key) (hc : c.szs) : d.szs := by
 have h1 : d.head.1 = c.head.1 := congrArg (fun k : Ck => k.1) h
 have h2 : fsts d.body = fsts c.body := congrArg (fun k : Ck => k.2.1) h
 have h3 : d.tests = c.tests := congrArg (fun k : Ck => k.2.2) h
 refine ⟨by rw [h1]; exact hc.1, fun x hx => ?_, by rw [h3]; exact hc.2.2⟩
 have hm : x.1 ∈ fsts d.body := List.mem_map.2 ⟨x, hx, rfl⟩
 rw [h2] at hm
 obtain ⟨y, hy, e⟩ := List.mem_map.1 hm
 rw [<- e]
 exact hc.2.1 y hy
theorem SetK.join {K K1 K2 : List Ck} {l : List Cm} {h : Nat} (h1 : SetK K1 (l.take h)) (h2 : SetK K2 (l.drop h)) (hr : K.Pairwise ltC3) (hm : ∀ x, x ∈ K ↔ x ∈ K1 ∨ x ∈ K2) : SetK K l :=
 ⟨hr, fun k => by
  rw [hm, h1.mem, h2.mem]
  constructor
  ·rintro (⟨c, hc, e⟩ | ⟨c, hc, e⟩)
   ·exact ⟨c, List.mem_of_mem_take hc, e⟩
   ·exact ⟨c, List.mem_of_mem_drop hc, e⟩
  ·rintro ⟨c, hc, e⟩
   rw [<- List.take_append_drop h l] at hc
   rcases List.mem_append.1 hc with hc | hc
   ·exact Or.inl ⟨c, hc, e⟩
   ·exact Or.inr ⟨c, hc, e⟩⟩
theorem SetK.one {c d : Cm} (h : d.key = c.key) : SetK ([d].map Cm.key) [c] := ⟨List.pairwise_singleton _ _, fun k => by simp [h, eq_comm]⟩
theorem SetK.nil : SetK ([] : List Ck) [] := ⟨List.Pairwise.nil, fun k => by simp⟩
theorem CsP.take {w : World} {b o n cap h : Nat} {l : List Cm} (H : CsP w (.slice (some ⟨b, o, none⟩) n cap) l) (hh : h <= l.length) (cap' : Nat) : CsP w (.slice (some ⟨b, o, none⟩) h cap') (l.take h) := by
 refine ⟨Or.inr ⟨⟨b, o, none⟩, cap', by rw [List.length_take, Nat.min_eq_left hh], ?_⟩, fun c hc => H.ok c (List.mem_of_mem_take hc)⟩
 cases hl : l with
 | nil => left; simp
 | cons c l' =>
  right
  obtain ⟨b', o', e, hr⟩ := H.get (j := 0) (c := c) (by rw [hl]; rfl)
  cases e
  refine ⟨b, o, rfl, hr.1, fun i x hx k u hu => ?_⟩
  refine hr.2 i x ?_ k u hu
  rw [<- hl] at hx
  rw [List.getElem?_take] at hx
  split at hx
  ·exact hx
  ·cases hx
theorem CsP.drop {w : World} {b o n cap h : Nat} {l : List Cm} (H : CsP w (.slice (some ⟨b, o, none⟩) n cap) l) (hh : h < l.length) (cap' : Nat) : CsP w (.slice (some ⟨b, o + h * 7, none⟩) (l.length - h) cap') (l.drop h) := by
 refine ⟨Or.inr ⟨⟨b, o + h * 7, none⟩, cap', by rw [List.length_drop], ?_⟩, fun c hc => H.ok c (List.mem_of_mem_drop hc)⟩
 right
 obtain ⟨c, hc⟩ : ∃ c, l[h]? = some c := ⟨_, List.getElem?_eq_getElem hh⟩
 obtain ⟨b', o', e, hr⟩ := H.get hc
 cases e
 refine ⟨b, o + h * 7, rfl, hr.1, fun i x hx k u hu => ?_⟩
 rw [List.getElem?_drop] at hx
 have := hr.2 (h + i) x hx k u hu
 rw [show o + h * 7 + i * 7 + k = o + (h + i) * 7 + k by omega]
 exact this
end Go.Proofs.YtnenadklmjcakaaGreatDoor
namespace Go.Proofs.YtnenadklmjcakaaGreatDoor
open Go.RowKit
attribute [local go_sem ↓] Go.wp_at_zero Go.wp_at_succ

structure OKP (w : World) (c : Cm) : Prop where
 ok : c.ok w
 hh : TsP w c.head.2 c.head.1.args
 hp : ∀ x ∈ c.body, TsP w x.2 x.1.args
 bp : AsP w c.bv c.body
theorem OKP.later {w w' : World} {c : Cm} (h : OKP w c) (hb : Below w.heap.size w w') : OKP w' c := ⟨h.ok.later hb, h.hh.later hb, fun x hx => (h.hp x hx).later hb, h.bp.later hb⟩
theorem ok_of_mc3k {B : Nat} {X : World} {d : Cm} (h : MCl B X d) (hs : (Ck.terms d.key).length <= 4000000) : d.ok X := by
 obtain ⟨s1, s2, s3, s4⟩ := cm_sizes hs
 exact h.ok (by omega) (by omega) (fun y hy => by have := s4 y hy; omega) (by omega)
set_option maxRecDepth 20000 in
set_option maxHeartbeats 4000000 in
theorem own3_any (c : Cm) (w : World) (hP : OKP w c) (hs : (Ck.terms c.key).length <= 4000000) :
  Calls Tryz.prog 67 #[c.v] w fun e w' => ∃ d : Cm, e = .returned d.v /\ d.key = c.key /\ MCl w.heap.size w' d /\ Below w.heap.size w w' := by
 obtain ⟨s1, s2, s3, s4⟩ := cm_sizes hs
 have hl : c.terms.length <= 4000000 := by rw [key_terms]; exact hs
 have HTM : Hid (∀ X : World, Below w.heap.size w X -> Calls Tryz.prog 75 #[c.v] X fun e w' => ∃ v', e = .returned v' /\ OwnT w' X.heap.size v' c.terms /\ Below X.heap.size X w') := fun X hX => terms3_any c X (hP.ok.later hX) (hP.hh.later hX) (fun x hx => (hP.hp x hx).later hX) (by omega)
 have HPU : Hid (∀ (X : World) (y : Value), Below w.heap.size w X -> OwnT X 0 y c.terms -> Calls Tryz.prog 117 #[c.v, y] X fun e w' => ∃ d : Cm, e = .returned d.v /\ d.key = c.key /\ MCl X.heap.size w' d /\ Below X.heap.size X w') := fun X y hX hy => by
  have := put3_any (fun t => t) c y X (hP.ok.later hX) (by rw [List.map_id']; exact hy.tsP.ts (by omega)) (by omega) (by omega) (by omega) (fun x hx => by have := s4 x hx; omega)
  rw [mapC_id] at this; exact this
 have HC0 : Hid (C2 w ((w.alloc (.cells c.cs 58)).alloc (.cells #[.int .i64 0, .int .i64 0, .string ⟨#[]⟩, .string ⟨#[]⟩, .slice none 0 0, .slice none 0 0, .slice none 0 0] 58)) c.cs) := C2.start w c.cs
 have hok0 := hP.ok
 generalize c.key = KEY at HPU
 generalize c.terms = TT at HTM HPU hl
 clear hP s1 s2 s3 s4 hs
 obtain ⟨⟨r1, r2, r3, tz1⟩, ⟨r4, r6, tz2⟩, ⟨r7, r9, tz3⟩, -, -⟩ := (hok0).shape
 obtain ⟨r5, tz4⟩ : ∃ n, n = c.body.length := ⟨_, rfl⟩
 obtain ⟨r8, tz5⟩ : ∃ n, n = c.tests.length := ⟨_, rfl⟩
 rw [<- tz4] at tz2
 rw [<- tz5] at tz3
 obtain ⟨⟨⟨⟨rk, rn, rs⟩, rm, ra⟩, rv⟩, rb, rbv, rt, rtv⟩ := c
 simp only at tz1 tz2 tz3
 subst tz1 tz2 tz3
 clear tz4 tz5
 clear hok0
 go_enter Tryz.func67, Tryz.ntmps67
 go_upto_region 1 with fail
 revert HC0
 generalize (w.alloc (.cells #[.int .i64 rk, .int .i64 rn, .string rs, .string rm, .slice r1 r2 r3, .slice r4 r5 r6, .slice r7 r8 r9] 58)).alloc (.cells #[.int .i64 0, .int .i64 0, .string ⟨#[]⟩, .string ⟨#[]⟩, .slice none 0 0, .slice none 0 0, .slice none 0 0] 58) = W0
 intro HC0
 refine wp_region_held_drew (S := fun w' => Below w.heap.size w w' /\ CBlk w' w.heap.size #[.int .i64 rk, .int .i64 rn, .string rs, .string rm, .slice r1 r2 r3, .slice r4 r5 r6, .slice r7 r8 r9] 58) (by kernel_rfl) ⟨below_step HC0.out.bw (Below.refl _ _).drew, HC0.out.bc.later (Below.refl _ _).drew⟩ (fun hH => ?_)
 have HR0 : Hid (CBlk W0.drew (w.heap.size + 1) zcs 58 /\ w.heap.size + 1 + 1 <= W0.drew.heap.size) := ⟨HC0.out.br.later (Below.refl _ _).drew, Nat.le_trans HC0.out.sz (Below.refl 0 W0).drew.size⟩
 revert hH HR0
 generalize W0.drew = V0
 intro hH HR0
 clear HC0
 refine wTk 0 (.agg #[.int .i64 rk, .int .i64 rn, .string rs, .string rm, .slice r1 r2 r3, .slice r4 r5 r6, .slice r7 r8 r9]) rfl (by kernel_rfl) (fun _ _ _ h => h) (Or.inl ⟨by rfl, fun w' h => by obtain ⟨c0, c1, c2, c3, c4, c5, c6⟩ := cseven h.2; clear h; go_simp⟩) hH ?_
 simp only [wA8, wB8, wC8, wD8]
 refine wTk 1 (.agg #[.int .i64 rk, .int .i64 rn, .string rs, .string rm, .slice r1 r2 r3, .slice r4 r5 r6, .slice r7 r8 r9]) rfl (by kernel_rfl) (fun _ _ _ h => h) (Or.inl ⟨by rfl, fun w' h => by obtain ⟨c0, c1, c2, c3, c4, c5, c6⟩ := cseven h.2; clear h; go_simp⟩) hH ?_
 simp only [wA8, wB8, wC8, wD8]
 refine wRd 2 (by kernel_rfl) rfl (fun K hK => ?_)
 go_simp
 refine (HTM.out _ hH.1).mono ?_
 rintro x V1 ⟨y, rfl, hy, hb⟩
 have HY : Hid (OwnT V1 0 y TT) := hy.mono (Nat.zero_le _)
 have HR1 : Hid (CBlk V1 (w.heap.size + 1) zcs 58 /\ w.heap.size + 1 + 1 <= V1.heap.size) := ⟨HR0.out.1.later hb, Nat.le_trans HR0.out.2 hb.size⟩
 refine hK.out _ _ ⟨below_step hH.1 hb, hH.2.later hb⟩ (fun hH => ?_)
 clear hK K hb hy HR0
 try simp only [wA8, wB8, wC8, wD8]
 refine wRd 3 (by kernel_rfl) rfl (fun K hK => ?_)
 go_simp
 refine (HPU.out _ _ hH.1 HY.out).mono ?_
 rintro x V2 ⟨dd, rfl, hdk, hmc, hb⟩
 obtain ⟨d1, d2, d3, d4, d5, d6, d7, d8, d9, e1, e2, e3⟩ := Cm.form hmc
 obtain ⟨⟨⟨⟨dk, dn, ds⟩, dm, da⟩, dv⟩, db, dbv, dt, dtv⟩ := dd
 simp only at e1 e2 e3
 subst e1 e2 e3
 have HDK : Hid (Cm.key ⟨(⟨⟨dk, dn, ds⟩, dm, da⟩, .slice d1 d2 d3), db, .slice d4 d5 d6, dt, .slice d7 d8 d9⟩ = KEY) := hdk
 have HMC : Hid (MCl (w.heap.size + 1 + 1) V2 ⟨(⟨⟨dk, dn, ds⟩, dm, da⟩, .slice d1 d2 d3), db, .slice d4 d5 d6, dt, .slice d7 d8 d9⟩) := hmc.mono HR1.out.2
 have HR2 : Hid (CBlk V2 (w.heap.size + 1) zcs 58) := HR1.out.1.later hb
 refine hK.out _ _ ⟨below_step hH.1 hb, hH.2.later hb⟩ (fun hH => ?_)
 clear hK K hb hdk hmc HY
 try simp only [wA8, wB8, wC8, wD8]
 refine wRd 4 (by kernel_rfl) rfl (fun K hK => ?_)
 obtain ⟨r0, r1, r2, r3, r4, r5, r6⟩ := cseven HR2.out
 have f0 : V2.frozen? ⟨w.heap.size + 1, 0, none⟩ = false := HR2.out.froz
 have f1 : V2.frozen? ⟨w.heap.size + 1, 1, none⟩ = false := HR2.out.froz
 have f2 : V2.frozen? ⟨w.heap.size + 1, 2, none⟩ = false := HR2.out.froz
 have f3 : V2.frozen? ⟨w.heap.size + 1, 3, none⟩ = false := HR2.out.froz
 have f4 : V2.frozen? ⟨w.heap.size + 1, 4, none⟩ = false := HR2.out.froz
 have f5 : V2.frozen? ⟨w.heap.size + 1, 5, none⟩ = false := HR2.out.froz
 have f6 : V2.frozen? ⟨w.heap.size + 1, 6, none⟩ = false := HR2.out.froz
 go_simp
 have n4 : w.heap.size <= w.heap.size + 1 := by omega
 have ng : w.heap.size ≠ w.heap.size + 1 := by omega
 refine hK.out _ _ ⟨((((((hH.1.setCell n4 _).setCell n4 _).setCell n4 _).setCell n4 _).setCell n4 _).setCell n4 _).setCell n4 _, ((((((hH.2.off ng).off ng).off ng).off ng).off ng).off ng).off ng⟩ (fun hH2 => ?_)
 clear hK K
 refine wpAnyH_done (by kernel_rfl) ?_ _
 have HV : Hid _ := hH2.1
 clear hH hH2
 go_wp2
 have n3 : w.heap.size + 1 < w.heap.size + 1 + 1 := by omega
 refine bodyPost_ret (v := Cm.v ⟨(⟨⟨dk, dn, ds⟩, dm, da⟩, .slice d1 d2 d3), db, .slice d4 d5 d6, dt, .slice d7 d8 d9⟩) (by simp [results, Tryz.results67, go_sem, r0, r1, r2, r3, r4, r5, r6]) rfl ⟨⟨(⟨⟨dk, dn, ds⟩, dm, da⟩, .slice d1 d2 d3), db, .slice d4 d5 d6, dt, .slice d7 d8 d9⟩, rfl, HDK.out, ?_, HV.out⟩
 exact (((((((HMC.out.set n3 _).set n3 _).set n3 _).set n3 _).set n3 _).set n3 _).set n3 _).mono (by omega)
end Go.Proofs.YtnenadklmjcakaaGreatDoor
namespace Go.Proofs.YtnenadklmjcakaaGreatDoor
open Go.RowKit

theorem CsP.one {X : World} {b : Nat} {d : Cm} (h : CBlk X b d.cs 58) (hok : d.ok X) : CsP X (.slice (some ⟨b, 0, none⟩) 1 1) [d] := by
 refine ⟨Or.inr ⟨⟨b, 0, none⟩, 1, rfl, Or.inr ⟨b, 0, rfl, h.lt, fun i c hc k u hu => ?_⟩⟩, fun c hc => by rw [List.mem_singleton] at hc; subst hc; exact hok⟩
 cases i with
 | zero =>
  cases hc
  rw [cell_of_row _ _ _ _ _ _ h]
  simpa [Cm.csl] using hu
 | succ i => simp at hc
theorem OwnA.asP9 {w : World} {base : Nat} {v : Value} {l : List (At × Value)} (h : OwnA w base v l) (hl : l.length < 1000000000000000000) (ht : ∀ x ∈ l, Ts w x.2 x.1.args) : AsP w v l := by
 rcases h.2 with ⟨hv, hn⟩ | ⟨g, cap, cur, hv, -⟩
 ·exact Or.inl ⟨hv, List.eq_nil_of_length_eq_zero hn⟩
 ·obtain ⟨a, cap', e, -, hr, -⟩ := h.as hl ht
  rw [hv] at e
  cases e
  refine Or.inr ⟨⟨g, 0, none⟩, cap, hv, hr.imp id ?_⟩
  rintro ⟨b, o, e, hr⟩
  cases e
  exact ⟨g, 0, rfl, hr⟩
theorem MCl.okp {B : Nat} {X : World} {d : Cm} (h : MCl B X d) (hs : (Ck.terms d.key).length <= 4000000) : OKP X d := by
 have ho := ok_of_mc3k h hs
 obtain ⟨s1, s2, s3, s4⟩ := cm_sizes hs
 exact ⟨ho, h.h.tsP, fun y hy => (h.x y hy).tsP, h.b.asP9 (by omega) fun y hy => (h.x y hy).tsP.ts (by have := s4 y hy; omega)⟩
theorem own5_any (c : Cm) (w : World) (hP : OKP w c) (hs : (Ck.terms c.key).length <= 4000000) :
  Calls Tryz.prog 67 #[c.v] w fun e w' => ∃ d : Cm, e = .returned d.v /\ d.key = c.key /\ OKP w' d /\ Below w.heap.size w w' :=
 (own3_any c w hP hs).mono fun e w' ⟨d, he, hk, hm, hb⟩ => ⟨d, he, hk, hm.okp (by rw [hk]; exact hs), hb⟩
set_option maxRecDepth 20000 in
set_option maxHeartbeats 8000000 in
theorem rset_one (c : Cm) (v : Value) (w : World) (h : CsP w v [c]) (hp : OKP w c) (ht : (Ck.terms c.key).length <= 4000000) :
  Calls Tryz.prog 30 #[v] w fun e w' => ∃ v' o, e = .returned v' /\ CsP w' v' o /\ o.map Cm.key = [c.key] /\ (∀ x ∈ o, OKP w' x) /\ Below w.heap.size w w' := by
 have HOW : Hid (Calls Tryz.prog 67 #[c.v] w fun e w' => ∃ d : Cm, e = .returned d.v /\ d.key = c.key /\ OKP w' d /\ Below w.heap.size w w') := own5_any c w hp ht
 have hsh := hp.ok.shape
 obtain ⟨va, vc, rfl⟩ := h.form
 obtain ⟨sb, so, rfl, hrw⟩ := h.get (j := 0) (c := c) rfl
 have hsv := hrw.seven (j := 0) (c := c) rfl
 simp only [Nat.zero_mul, Nat.add_zero] at hsv
 obtain ⟨KC, hKC⟩ : ∃ K, c.key = K := ⟨_, rfl⟩
 rw [hKC] at HOW ⊢
 clear h hp ht hrw hKC
 obtain ⟨⟨⟨⟨k, m, s⟩, nm, ls⟩, hx⟩, body, bv, tests, tv⟩ := c
 simp only at hsv hsh
 obtain ⟨⟨a1, a2, a3, e1⟩, ⟨b1, b3, e2⟩, ⟨t1, t3, e3⟩, -, -⟩ := hsh
 subst e1 e2 e3
 obtain ⟨c0, c1, c2, c3, c4, c5, c6⟩ := hsv
 go_enter Tryz.func30, Tryz.ntmps30
 go_wp2_with (go_at_call 67; refine HOW.out.mono ?_; rintro e w1 ⟨d, rfl, hdk, hkp, hb3⟩; obtain ⟨⟨d1, d2, d3, f1⟩, ⟨d4, d6, f2⟩, ⟨d7, d9, f3⟩, -, -⟩ := hkp.ok.shape; have HDK : Hid (d.key = KC) := hdk; have HKD : Hid (OKP w1 d) := hkp; have HB3 : Hid (Below w.heap.size w w1) := hb3; have HG : Hid (CBlk (w1.alloc (.cells d.cs 58)) w1.heap.size d.cs 58) := CBlk.new _ _ _; clear hdk hkp hb3; obtain ⟨⟨⟨⟨dk, dm, ds⟩, dn, dl⟩, dv⟩, db, dbv, dt, dtv⟩ := d; simp only at f1 f2 f3; subst f1 f2 f3)
 go_ret
 exact ⟨_, [_], rfl, CsP.one HG.out (HKD.out.later (below1 _ _)).ok, by rw [List.map_singleton, HDK.out], (fun x hx => by rw [List.mem_singleton] at hx; subst hx; exact HKD.out.later (below1 _ _)), below_step HB3.out (below1 _ _)⟩
end Go.Proofs.YtnenadklmjcakaaGreatDoor
