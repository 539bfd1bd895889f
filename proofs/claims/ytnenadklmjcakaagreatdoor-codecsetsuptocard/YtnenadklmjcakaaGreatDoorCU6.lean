import Derived.Test.YtnenadklmjcakaaGreatDoorCU2
import Derived.Test.YtnenadklmjcakaaGreatDoorCR5
import Derived.Test.YtnenadklmjcakaaGreatDoorSD17
import Derived.Test.YtnenadklmjcakaaGreatDoorCM0
import Derived.Test.YtnenadklmjcakaaGreatDoorSD8
import Derived.Test.YtnenadklmjcakaaGreatDoorSD20
import Derived.Test.YtnenadklmjcakaaGreatDoorCU1
import Derived.Test.YtnenadklmjcakaaGreatDoorCards
import Derived.Test.YtnenadklmjcakaaGreatDoorTie
import Derived.SevenTiedAt
import Derived.Deep.DeepHandedRow
import Derived.JoinedCond
namespace Go.Proofs.YtnenadklmjcakaaGreatDoor
open Go.RowKit

theorem OCL.csp7 {B : Nat} {X : World} {v : Value} {l : List Cm} (h : OCL X B v l) : CsP X v l := h.o.csp2 (fun c hc => (h.m c hc).1.ok (h.m c hc).2)
theorem Bn.form7 {w : World} {v : Value} {l : List Int} (h : Bn w v l) : ∃ a n cap, v = .slice a n cap := by
 obtain ⟨a, cap, rfl, -⟩ := h
 exact ⟨_, _, _, rfl⟩
theorem setK_same {K K' : List Ck} {l l' : List Cm} (h : SetK K l) (h' : SetK K' l') (hm : l.map Cm.key = l'.map Cm.key) : K = K' :=
 rise_uniq K K' h.rise h'.rise fun k => by
  have e : (∃ c ∈ l, c.key = k) ↔ ∃ c ∈ l', c.key = k := by
   rw [<- List.mem_map, <- List.mem_map, hm]
  rw [h.mem, h'.mem, e]
set_option maxRecDepth 20000 in
set_option maxHeartbeats 1600000 in
theorem codecSets_any (l : List Cm) (v u : Value) (B : List Int) (w : World) (hl : CsP w v l) (hq : ∀ a n cap, v = .slice a n cap -> n <= cap) (hco : ∀ c ∈ l, COpen w c) (hlt : ∀ c ∈ l, (Ck.terms c.key).length <= 2000000) (hwf : ∀ c ∈ l, ∀ t ∈ Ck.terms c.key, t.var = true -> (Lit.int .i64 t.n).wf = true) (hll : l.length <= 2000000) (hb : Br w u B) (hlB : B.length <= 2000000) (hB : BehOk w) :
  Calls Tryz.prog 3 #[v, u] w fun e w' => e = .returned (.bool true) /\ Below w.heap.size w w' := by
 obtain ⟨av, acap, rfl⟩ : ∃ a cap, u = .slice a B.length cap := by obtain ⟨-, a, cap, e, -⟩ := hb; exact ⟨a, cap, e⟩
 have hkm : ∀ {d : Cm} {LB : List Cm}, LB.map Cm.key = l.map Cm.key -> d ∈ LB -> ∃ c ∈ l, c.key = d.key := fun {d LB} hk hd => by
  have : d.key ∈ l.map Cm.key := by rw [<- hk]; exact List.mem_map_of_mem hd
  obtain ⟨c, hc, e⟩ := List.mem_map.1 this
  exact ⟨c, hc, e⟩
 have HBY : Hid (∀ X : World, Below w.heap.size w X -> Calls Tryz.prog 5 #[v, .agg #[.slice none 0 0, .slice none 0 0], .slice av B.length acap] X fun e w' => YesNo e /\ Below X.heap.size X w') := fun X hX => beyond_any l [] [] v _ _ av B.length acap X (hl.later hX) ⟨Or.inl ⟨rfl, rfl⟩, fun c hc => by simp at hc⟩ ⟨Or.inl ⟨rfl, rfl⟩, fun c hc => by simp at hc⟩ (by omega) (by simp) (by simp)
 have HLD : Hid (∀ X : World, Below w.heap.size w X -> Calls Tryz.prog 6 #[v] X fun e w' => ∃ u LB, e = .returned u /\ LB.map Cm.key = l.map Cm.key /\ LentC w' X.heap.size u LB /\ Below X.heap.size X w') := fun X hX => lendCs_any l v X (hl.later hX) (fun c hc => ((hco c hc).lp (by have := hlt c hc; omega)).later hX) (by omega) (hB.later hX)
 have HCW : Hid (∀ (X : World) (y : Value) (LB : List Cm) (base : Nat), LB.map Cm.key = l.map Cm.key -> LentC X base y LB -> Calls Tryz.prog 7 #[y] X fun e w' => ∃ v' K, e = .returned (.tuple #[v', .int .i64 (fK K)]) /\ SetK K LB /\ Bn w' v' (sG K) /\ Below X.heap.size X w') := fun X y LB base hk hn => by
  have hts : ∀ d ∈ LB, (Ck.terms d.key).length <= 2000000 := fun d hd => by
   obtain ⟨c, hc, e⟩ := hkm hk hd
   rw [<- e]; exact hlt c hc
  refine setG_any LB y X (hn.csp fun d hd => by have := hts d hd; omega) (by have := congrArg List.length hk; simp only [List.length_map] at this; omega) (fun d hd => ?_) (fun k ⟨d, hd, e⟩ d' hd' => ?_)
  ·obtain ⟨s1, s2, s3, s4⟩ := cm_sizes (c := d) (by have := hts d hd; omega)
   exact ⟨by omega, by omega, by omega, fun x hx => by have := s4 x hx; omega⟩
  ·obtain ⟨c, hc, e2⟩ := hkm hk hd
   refine ⟨fun t ht hv => ?_, ?_⟩
   ·rw [key_terms, hd', <- e, <- e2] at ht
    exact hwf c hc t ht hv
   ·rw [key_terms, hd', <- e, <- e2]
    have := hlt c hc
    omega
 have HRW : Hid (∀ X : World, Below w.heap.size w X -> Calls Tryz.prog 8 #[v] X fun e w' => ∃ v' K, e = .returned (.tuple #[v', .int .i64 (fK K)]) /\ SetK K l /\ Bn w' v' (sG K) /\ Below X.heap.size X w') := fun X hX => rsetB_any l v X ⟨hl.later hX, fun c hc => ⟨(hco c hc).okp.laterS hX, by have := hlt c hc; omega, (hco c hc).sz⟩, hq⟩ (by omega)
 have HKP : Hid (∀ (X : World) (y : Value) (LB : List Cm) (base : Nat), Below w.heap.size w X -> LB.map Cm.key = l.map Cm.key -> LentC X base y LB -> Calls Tryz.prog 9 #[y, v] X fun e w' => e = .returned (.bool true) /\ Below X.heap.size X w') := fun X y LB base hX hk hn => keptCs_any l LB y v base X (hl.later hX) (fun c hc => by have := hlt c hc; omega) hn hk (hB.later hX) (by omega)
 have HLB : Hid (∀ X, Below w.heap.size w X -> Calls Tryz.prog 10 #[.slice av B.length acap] X fun e w' => ∃ y, e = .returned y /\ LentB w' X.heap.size y B /\ Below X.heap.size X w') := fun X hX => lendB_any _ B X (hb.later hX) hlB
 have HKB : Hid (∀ (X : World) (y : Value) (base : Nat), Below w.heap.size w X -> LentB X base y B -> Calls Tryz.prog 14 #[y, .slice av B.length acap] X fun e w' => e = .returned (.bool true) /\ Below X.heap.size X w') := fun X y base hX hy => keptB_any y _ B base X hy (hb.later hX) hlB
 have HRA : Hid (∀ (X : World) (y : Value) (base : Nat), LentB X base y B -> Calls Tryz.prog 11 #[y] X (RS8 X (rWhole rSet B))) := fun X y base hy => readSet_any y B X (hy.bh hb.1 (by omega))
 have HQA : Hid (∀ X, Below w.heap.size w X -> Calls Tryz.prog 12 #[.slice av B.length acap] X (RQS X (rWhole rSet B))) := fun X hX => rreadSet_any _ B X (hb.later hX)
 have HF : Hid (∀ X, Calls Tryz.prog 15 #[] X fun e w' => e = .returned (.bool true) /\ Below X.heap.size X w') := fun X => first6_any X
 have HSC : Hid (∀ (X : World) (y z : Value) (P Q : List Cm), CsP X y P -> CsP X z Q -> P.map Cm.key = Q.map Cm.key -> P.length <= 1000000000000000000 -> Calls Tryz.prog 13 #[y, z] X fun e w' => e = .returned (.bool true) /\ Below X.heap.size X w') := fun X y z P Q h1 h2 h3 h4 => by
  have := sameCs_any P Q y z X h1 h2 h4
  rwa [decide_eq_true h3] at this
 have HLEN : Hid (∀ K, rWhole rSet B = .ok K -> K.length <= 1000000000000000000) := fun K e => by
  have := (iv_wset hb.1 e).2.2.1
  omega
 obtain ⟨va, vc, rfl⟩ := hl.form
 obtain ⟨vn, hvn⟩ : ∃ n, n = l.length := ⟨_, rfl⟩
 rw [<- hvn] at HBY HLD HRW HKP ⊢
 clear hl hq hco hlt hwf hb hB hkm hvn
 go_enter Tryz.func3, Tryz.ntmps3
 go_upto_if 18 with (go_at_call 5; refine (HBY.out _ (Below.refl _ _)).mono ?_; clear HBY; rintro e w1 ⟨⟨bb, rfl⟩, hb⟩; have HW1 : Hid (Below w.heap.size w w1) := hb; clear hb)
 cases bb
 case true =>
  go_wp2
  go_ret
  exact ⟨rfl, HW1.out⟩
 go_upto_region 6 with (first
  | (go_at_call 6; refine (HLD.out _ HW1.out).mono ?_; clear HLD; rintro e w2 ⟨y2, LB, rfl, hk, hn, hb⟩; obtain ⟨ya, yn, yc, rfl⟩ : ∃ a n c, y2 = .slice a n c := (by obtain ⟨⟨g, cap, e, -⟩, -⟩ := hn; exact ⟨_, _, _, e⟩); have HLK : Hid (LB.map Cm.key = l.map Cm.key) := hk; have HN2 : Hid (LentC w2 w1.heap.size (.slice ya yn yc) LB) := hn; have HW2 : Hid (Below w.heap.size w w2) := below_step HW1.out hb; clear hk hn hb)
  | (go_at_call 7; refine (HCW.out _ _ LB _ HLK.out HN2.out).mono ?_; clear HCW; rintro e w3 ⟨v3, K, rfl, hk, hbn, hb⟩; obtain ⟨xa, xn, xc, rfl⟩ := hbn.form7; have HK : Hid (SetK K LB) := hk; have HX3 : Hid (Bn w3 (.slice xa xn xc) (sG K)) := hbn; have HN3 : Hid (LentC w3 w1.heap.size (.slice ya yn yc) LB) := HN2.out.later hb; have HW3 : Hid (Below w.heap.size w w3) := below_step HW2.out hb; clear hk hbn hb)
  | (go_at_call 8; refine (HRW.out _ HW3.out).mono ?_; clear HRW; rintro e w4 ⟨v4, K', rfl, hk, hbn, hb⟩; have hkk : K' = K := (setK_same HK.out hk HLK.out).symm; subst hkk; obtain ⟨za, zn, zc, rfl⟩ := hbn.form7; have HX4 : Hid (Bn w4 (.slice xa xn xc) (sG K')) := HX3.out.later hb; have HZ4 : Hid (Bn w4 (.slice za zn zc) (sG K')) := hbn; have HN4 : Hid (LentC w4 w1.heap.size (.slice ya yn yc) LB) := HN3.out.later hb; have HW4 : Hid (Below w.heap.size w w4) := below_step HW3.out hb; clear hk hbn hb HX3 HN2 HN3 HW2 HW3))
 have hcv1 := conv_bn HX4.out (sG_byt _)
 have hcv2 := conv_bn HZ4.out (sG_byt _)
 generalize ofL (sG K') = SS at *
 generalize fK K' = EE at *
 clear HX4 HZ4 HK
 go_upto_region 8 with (go_at_call 9; refine (HKP.out _ _ LB _ HW4.out HLK.out HN4.out).mono ?_; rintro e w5 ⟨rfl, hb⟩; have HW5 : Hid (Below w.heap.size w w5) := below_step HW4.out hb; clear hb hcv1 hcv2)
 clear HN4 HW4 HLK HKP
 go_upto_region 11 with (first
  | (go_at_call 10; refine (HLB.out _ HW5.out).mono ?_; rintro e w6 ⟨y6, rfl, hu, hb⟩; have HU6 : Hid (LentB w6 w5.heap.size y6 B) := hu; have HW6 : Hid (Below w.heap.size w w6) := below_step HW5.out hb; obtain ⟨ga, gn, gc, rfl⟩ : ∃ a n c, y6 = .slice a n c := (by obtain ⟨g, cap, e, -⟩ := hu; exact ⟨_, _, _, e⟩); clear hu hb)
  | (go_at_call 11; refine (HRA.out _ _ _ HU6.out).mono ?_; rintro e w7 ⟨hb, x, p7, per, rfl, ⟨P, hP, ho⟩, hm⟩; obtain ⟨pa, pc, e7⟩ := ho.o.form; obtain ⟨pn, hpn⟩ : ∃ n, n = P.length := ⟨_, rfl⟩; rw [<- hpn] at e7; subst e7; have HP7 : Hid (CsP w7 (.slice pa pn pc) P) := ho.csp7; have HPK : Hid (P.map Cm.key = x) := hP; have HMP : Hid (match rWhole rSet B with | .ok y => x = y /\ per = 0 | .error d => x = [] /\ per = d) := hm; have HU7 : Hid (LentB w7 w5.heap.size (.slice ga gn gc) B) := HU6.out.later hb; have HW7 : Hid (Below w.heap.size w w7) := below_step HW6.out hb; clear hb hP ho hm hpn)
  | (go_at_call 12; refine (HQA.out _ HW7.out).mono ?_; rintro e w8 ⟨hb, q8, Q, qer, rfl, hQ, hm⟩; obtain ⟨qa, qc, e8⟩ := hQ.form; obtain ⟨qn, hqn⟩ : ∃ n, n = Q.length := ⟨_, rfl⟩; rw [<- hqn] at e8; subst e8; have HQ8 : Hid (CsP w8 (.slice qa qn qc) Q) := hQ; have HMQ : Hid (match rWhole rSet B with | .ok K => Q.map Cm.key = K /\ qer = 0 | .error d => Q = [] /\ qer = d) := hm; have HP8 : Hid (CsP w8 (.slice pa pn pc) P) := HP7.out.later hb; have HU8 : Hid (LentB w8 w5.heap.size (.slice ga gn gc) B) := HU7.out.later hb; have HW8 : Hid (Below w.heap.size w w8) := below_step HW7.out hb; clear hb hQ hm hqn))
 obtain ⟨he, rfl, hle⟩ : P.map Cm.key = Q.map Cm.key /\ qer = per /\ P.length <= 1000000000000000000 := by
  have h1 := HMP.out
  have h2 := HMQ.out
  have h3 := HPK.out
  cases hr : rWhole rSet B with
  | ok b => rw [hr] at h1 h2; exact ⟨h3.trans (h1.1.trans h2.1.symm), h2.2.trans h1.2.symm, by have := HLEN.out b hr; rw [<- h1.1, <- h3, List.length_map] at this; exact this⟩
  | error d => rw [hr] at h1 h2; have h4 : P = [] := List.map_eq_nil_iff.1 (h3.trans h1.1); rw [h4, h2.1]; exact ⟨rfl, h2.2.trans h1.2.symm, by simp⟩
 have HS8 : Hid (Calls Tryz.prog 13 #[.slice pa pn pc, .slice qa qn qc] w8 fun e w' => e = .returned (.bool true) /\ Below w8.heap.size w8 w') := HSC.out _ _ _ _ _ HP8.out HQ8.out he hle
 clear HMP HMQ he hle HPK HP7 HP8 HQ8
 go_wp2_with (first
  | (go_at_call 13; refine HS8.out.mono ?_; rintro e w9 ⟨rfl, hb⟩; have HW9 : Hid (Below w.heap.size w w9) := below_step HW8.out hb; have HU9 : Hid (LentB w9 w5.heap.size (.slice ga gn gc) B) := HU8.out.later hb; clear hb)
  | (go_at_call 14; refine (HKB.out _ _ _ HW9.out HU9.out).mono ?_; rintro e w10 ⟨rfl, hb⟩; have HW10 : Hid (Below w.heap.size w w10) := below_step HW9.out hb; clear hb)
  | (go_at_call 15; refine (HF.out _).mono ?_; rintro e w11 ⟨rfl, hb⟩; have HW11 : Hid (Below w.heap.size w w11) := below_step HW10.out hb; clear hb))
 go_ret
 exact ⟨rfl, HW11.out⟩
end Go.Proofs.YtnenadklmjcakaaGreatDoor
namespace Go.Proofs.YtnenadklmjcakaaGreatDoor
open Go.ChangeShapes Go.WideShapes Go.ChangeAt Go.RowKit

theorem Tryz.cellsU8 : Tryz.prog.cellsOf 5 = 1 := by kernel_rfl
theorem bulk_one {H : Type} (d : DataW H) : 0 < Rows.uptoBulk d := by
 cases d with
 | lit l => cases l <;> simp [Rows.uptoBulk]
 | _ => simp [Rows.uptoBulk]
theorem bulk_many {H : Type} (l : List (DataW H)) : l.length <= Rows.uptoBulkAll l := by
 induction l with
 | nil => simp
 | cons d r ih => have := bulk_one d; simp only [Rows.uptoBulkAll, List.length_cons]; omega
theorem open_bytes8 {H : Type} {enc : TypeId × Value -> H} {W : World} {base fuel : Nat} {spare : Nat -> Bool} {held : Bool} {a0 : Option Addr} {len cap : Nat} {d : DataW H} {p : List MemPlace}
  (h : DataW.trod enc Tryz.prog W base spare held fuel 23 (Value.slice a0 len cap).cells.toList = some (d, p)) (hk : Rows.uptoBulk d <= 1048576) : ∃ l, Br W (.slice a0 len cap) l /\ l.length <= 1048576 := by
 rcases open_ints Tryz.underlying23 Tryz.underlying5 Tryz.cellsU8 h with ⟨hcs, -⟩ | ⟨a, n, c, zs, hcs, -, hl, -, hzl, hx, hcell, hwf⟩
 ·simp [Value.cells] at hcs
  obtain ⟨rfl, rfl, rfl⟩ := hcs
  exact ⟨[], ⟨fun x hx => by simp at hx, none, 0, rfl, Nat.le_refl _, by simp, fun _ => rfl, Or.inl rfl⟩, by simp⟩
 ·simp [Value.cells] at hcs
  obtain ⟨rfl, rfl, rfl⟩ := hcs
  have hz : len <= zs.length := by rw [hzl]; split <;> omega
  have htl : (zs.take len).length = len := by rw [List.length_take]; omega
  have hlb : len <= 1048576 := by
   have e : d = .slice (lits .u8 (zs.take len)) (lits .u8 (zs.drop len)) := congrArg Prod.fst hx
   rw [e] at hk
   have := bulk_many (lits (H := H) .u8 (zs.take len))
   have hll : (lits (H := H) .u8 (zs.take len)).length = len := by unfold lits; rw [List.length_map]; exact htl
   simp only [Rows.uptoBulk] at hk; omega
  refine ⟨zs.take len, ⟨fun x hx => ?_, some a, cap, by rw [htl], by omega, by omega, fun e => (by cases e), ?_⟩, by omega⟩
  ·have := hwf x (List.mem_of_mem_take hx)
   simp [Lit.wf] at this
   have e1 : IntKind.u8.min = 0 := by decide
   have e2 : IntKind.u8.max = 255 := by decide
   omega
  ·rcases Nat.eq_zero_or_pos len with h0 | h0
   ·left; rw [h0]; rfl
   ·right
    obtain ⟨b, o, spot⟩ := a
    have c0 := hcell 0 (by omega)
    have hspot : spot = none := by simpa [Addr.add] using World.cell?_spot c0
    subst hspot
    refine ⟨b, o, rfl, World.block_lt_of_cell? W _ c0, fun i x hi => ?_⟩
    have hil : i < len := by have := (List.getElem?_eq_some_iff.1 hi).1; omega
    have hc := hcell i (by omega)
    rw [Addr.add_mid] at hc
    rw [hc]
    rw [List.getElem?_take_of_lt hil] at hi
    simp [List.getD, hi]
theorem cs_met (os : Os) (args : Array Value) : laidMetH Tryz.prog [("hearsay/hearsayref03.behindTerm", Rows.laid_hearsay_hearsayref03_behindTerm), ("hearsay/hearsayref03.behindTest", Rows.laid_hearsay_hearsayref03_behindTest)] ((World.doorLaid Tryz.prog 400 os).forCall (fun _ _ => 0) ⟨#[], args, []⟩).memory :=
 laidMetH_of_parts3 (fuel := 8) (laidMet_of_run' 8 (by kernel_rfl) (by kernel_rfl)) (by kernel_rfl) (by kernel_rfl)
theorem cs_reads (os : Os) {H : Type} (enc : TypeId × Value -> H) : ∃ places, DataW.whole enc Tryz.prog ((World.doorLaid Tryz.prog 400 os).forCall (fun _ _ => 0) ⟨#[], #[.slice none 0 0, .slice none 0 0], []⟩).memory Tryz.f3.params.toList Rows.codecSetsSpec.vars false #[.slice none 0 0, .slice none 0 0].toList 8 = some ([.nil, .nil], [], places) :=
 ⟨[], by kernel_rfl⟩
set_option maxRecDepth 100000 in
theorem cs_lifted (os : Os) (started : os.Started) (H : Type) (enc : TypeId × Value -> H) (F : Stop.Interp) :
  ReturnsInHanded {} Tryz.checked os 3 .any ((Rows.OpenSpec.upto Rows.codecSetsSpec).preRow enc Tryz.prog Tryz.f3 Rows.codecSetsUptoRow.domain false Rows.codecSetsUptoRow.laid) (((Rows.OpenSpec.upto Rows.codecSetsSpec).at F).post enc Tryz.prog Tryz.f3 false true false false) := by
 obtain ⟨places, hx⟩ := cs_reads os enc
 refine returnsInHanded_of_row (C := Tryz.checked) (s := Rows.OpenSpec.upto Rows.codecSetsSpec) Tryz.own started (by kernel_rfl) Tryz.func3
  (witness_row_at (enc := enc) (C := Tryz.checked) false (World.doorLaid Tryz.prog 400 os) #[.slice none 0 0, .slice none 0 0] rfl (by kernel_rfl) (by kernel_rfl) (by kernel_rfl)
   (OpenSpec.preRow_of_cond 8 hx (by kernel_rfl) (fun k hk => by cases hk; kernel_rfl) (by kernel_rfl) (cs_met os _))) ?_
 intro W base args ds gs before hval0 hW _ hcond hsz0 hL0 _ _
 have hk : Rows.uptoSmall H (ds ++ gs) = true := hcond _ rfl
 have hL : laidMetH Tryz.prog [("hearsay/hearsayref03.behindTerm", Rows.laid_hearsay_hearsayref03_behindTerm), ("hearsay/hearsayref03.behindTest", Rows.laid_hearsay_hearsayref03_behindTest)] W := hL0
 have hval : ∀ (j : Nat) t v, Tryz.f3.params[j]? = some t -> args[j]? = some v -> Value.okWide Tryz.prog W .any base t v := hval0
 have hsz : (DataW.weightsEach Tryz.prog (Tryz.f3.params.toList ++ Rows.codecSetsSpec.plain.varTypes Tryz.prog) (ds ++ gs)).all (· <= reachBytes) = true := hsz0
 have hW' := hW
 obtain ⟨p, q, hA0, hV, rfl, hfz, hnd⟩ := hW
 have hA : DataW.TrodAll enc Tryz.prog W 0 (fun _ => true) true Tryz.f3.params.toList args.toList ds p := hA0
 rw [Tryz.params3] at hA hval hsz
 obtain ⟨v0, vs0, d0, ds0, p0, q0, hargs, rfl, rfl, h0, r0⟩ := trodAll_cons hA
 obtain ⟨v1, vs1, d1, ds1, p1, q1, rfl, rfl, rfl, h1, r1⟩ := trodAll_cons r0
 obtain ⟨rfl, rfl, rfl⟩ := trodAll_nil r1
 obtain rfl : args = #[v0, v1] := by cases args; simp_all
 obtain ⟨rfl, rfl⟩ := trodVars_none hV
 have k0 := h0
 have k1 := h1
 have lt1 : ∀ x ∈ p1, x.block < W.heap.size := by obtain ⟨m, hm⟩ := k1; exact DataW.trod_lt m _ _ _ hm
 have lt0 : ∀ x ∈ p0, x.block < W.heap.size := by obtain ⟨m, hm⟩ := k0; exact DataW.trod_lt m _ _ _ hm
 have sz : ∀ n ∈ DataW.weightsEach Tryz.prog _ _, n <= reachBytes := fun n hn => by simpa using List.all_eq_true.1 hsz n hn
 obtain ⟨a9, len9, cap9, rfl⟩ := okWide_slice Tryz.underlying22 (hval 0 22 v0 rfl rfl)
 obtain ⟨fuel0, hf0⟩ := h0
 obtain ⟨v9, l, e9, ⟨hcs, hco, hcq⟩, hll, hlt⟩ := open_clausesZ hf0 (fun n hn => sz n (DataW.weights_mem_each (j := 0) rfl rfl n hn))
 simp [Value.cells] at e9
 subst e9
 simp only at hll hlt
 have hbk : Rows.uptoBulkAll ([d0, d1] ++ []) <= 1048576 := of_decide_eq_true hk
 simp only [List.cons_append, List.nil_append, Rows.uptoBulkAll] at hbk
 obtain ⟨a0, len, cap, rfl⟩ := okWide_slice Tryz.underlying23 (hval 1 23 v1 rfl rfl)
 obtain ⟨fuel, hf⟩ := h1
 obtain ⟨B, hB, lB⟩ := open_bytes8 hf (by omega)
 clear hA0 hval0
 refine (codecSets_any l _ _ B W hcs hcq hco (fun c hc => by have := hlt c hc; omega) (fun c hc t ht _ => (hco c hc).wf t ht) (by omega) hB (by omega) (beh_of_laid hL)).mono fun e W' ⟨he, bel⟩ => ?_
 subst he
 exact ⟨_, rfl, _, _, _, [], _, [], hW', trodAll_mk1 (shut_bool Tryz.underlying4 _), (trodAll_cons_mk (Below.trod Tryz.laidOut (by kernel_rfl) (of_decide_eq_true (by kernel_rfl)) k0 bel lt0) (trodAll_cons_mk (Below.trod Tryz.laidOut (by kernel_rfl) (of_decide_eq_true (by kernel_rfl)) k1 bel lt1) trodAll_mk0)), rfl, bel.frame _, fun h => by cases h⟩

theorem codecSets_row : Rows.CodecSetsUptoSaid :=
 OpenClaim.holds_of_cond 3 Tryz.f3 rfl rfl rfl rfl rfl rfl rfl ⟨rfl, rfl, rfl, rfl, rfl⟩ rfl rfl rfl rfl rfl (by kernel_rfl) Tryz.func3 (by kernel_rfl)
  (of_decide_eq_true (by kernel_rfl)) (by unfold Func.isWrapper; first | (rw [if_pos (by decide +kernel)]; kernel_rfl) | (rw [if_neg (by decide +kernel)]; exact ⟨rfl, rfl⟩))
  (fun os started H enc _ F => by rw [OpenClaim.pre_eq_preRow]; exact cs_lifted os started H enc F)
theorem codecSets_holds : Rows.CodecSetsUptoCardSaid :=
 Claim7.holds_tied_plain_at .later [] _ _ _ _
  codecSets_row (fun _ h => by cases h) (by kernel_rfl) (fun _ h => by cases h) codecSetsUpto_row_tie rfl ⟨rfl, rfl⟩ (by kernel_rfl) rfl
  (fun f fn hf hfn => by
   obtain rfl : f = 3 := Option.some.inj ((show Tryz.prog.funcNamed "hearsay/hearsaylaw06.CodecSets" = some 3 by kernel_rfl).symm.trans hf) |>.symm
   obtain rfl : fn = Tryz.f3 := (Option.some.inj (Tryz.func3.symm.trans hfn)).symm
   exact ⟨by kernel_rfl, fun j t ht => by
    rw [Tryz.params3] at ht
    have h3 : t = 22 ∨ t = 23 := by
     rcases j with _ | _ | j
     ·left; simpa using ht.symm
     ·right; simpa using ht.symm
     ·simp at ht
    rcases h3 with rfl | rfl
    ·exact (show Tryz.prog.wantsStandIn 22 = false by kernel_rfl)
    ·exact (show Tryz.prog.wantsStandIn 23 = false by kernel_rfl)⟩)
  (by kernel_rfl)
#print axioms codecSets_holds
end Go.Proofs.YtnenadklmjcakaaGreatDoor
