/-
  ClauseOneQuote: the walk. (Written by OQ4.py.)
-/
import Derived.Test.YtaiblofbdfbjcabOQ3
import Derived.Test.YtaiblofbdfbjcabCL15
import Derived.Deep.RegionHeld3
namespace Go.Proofs.Ytaiblofbdfbjcab
open Go.RowKit
attribute [local go_sem ↓] Go.wp_at_zero Go.wp_at_succ

theorem twoBxs {w1 w2 : World} {B1 : Nat} {d e : Cm} (hd : Kp B1 w1 d) (hb : Below (w1.alloc (.cells d.cs 30)).heap.size (w1.alloc (.cells d.cs 30)) w2) (he : Kp (w1.alloc (.cells d.cs 30)).heap.size w2 e) :
    Bx ((((((((w2.alloc (.cells e.cs 30)).setCell ⟨w1.heap.size, 0, none⟩ (.int .i64 0)).setCell ⟨w1.heap.size, 1, none⟩ (.int .i64 0)).setCell ⟨w1.heap.size, 2, none⟩ (.string ⟨#[]⟩)).setCell ⟨w2.heap.size, 0, none⟩ (.int .i64 0)).setCell ⟨w2.heap.size, 1, none⟩ (.int .i64 0)).setCell ⟨w2.heap.size, 2, none⟩ (.string ⟨#[]⟩))) w1.heap.size ⟨(⟨⟨0, 0, ⟨#[]⟩⟩, d.head.1.name, d.head.1.args⟩, d.head.2), d.body, d.bv, d.tests, d.tv⟩ ∧ Bx ((((((((w2.alloc (.cells e.cs 30)).setCell ⟨w1.heap.size, 0, none⟩ (.int .i64 0)).setCell ⟨w1.heap.size, 1, none⟩ (.int .i64 0)).setCell ⟨w1.heap.size, 2, none⟩ (.string ⟨#[]⟩)).setCell ⟨w2.heap.size, 0, none⟩ (.int .i64 0)).setCell ⟨w2.heap.size, 1, none⟩ (.int .i64 0)).setCell ⟨w2.heap.size, 2, none⟩ (.string ⟨#[]⟩))) w2.heap.size ⟨(⟨⟨0, 0, ⟨#[]⟩⟩, e.head.1.name, e.head.1.args⟩, e.head.2), e.body, e.bv, e.tests, e.tv⟩ ∧ Below w1.heap.size w1 ((((((((w2.alloc (.cells e.cs 30)).setCell ⟨w1.heap.size, 0, none⟩ (.int .i64 0)).setCell ⟨w1.heap.size, 1, none⟩ (.int .i64 0)).setCell ⟨w1.heap.size, 2, none⟩ (.string ⟨#[]⟩)).setCell ⟨w2.heap.size, 0, none⟩ (.int .i64 0)).setCell ⟨w2.heap.size, 1, none⟩ (.int .i64 0)).setCell ⟨w2.heap.size, 2, none⟩ (.string ⟨#[]⟩))) ∧ CBlk ((((w2.alloc (.cells e.cs 30)).setCell ⟨w1.heap.size, 0, none⟩ (.int .i64 0)).setCell ⟨w1.heap.size, 1, none⟩ (.int .i64 0)).setCell ⟨w1.heap.size, 2, none⟩ (.string ⟨#[]⟩)) w2.heap.size e.cs 30 := by
  have hs1 : (w1.alloc (.cells d.cs 30)).heap.size = w1.heap.size + 1 := by simp
  have hsz := hb.size
  rw [hs1] at hsz
  have ne : w1.heap.size ≠ w2.heap.size := by omega
  have b0 : Below w1.heap.size w1 (w2.alloc (.cells e.cs 30)) := below_step (below_step (below1 w1 (.cells d.cs 30)) hb) (below1 _ _)
  have g1 : CBlk (w2.alloc (.cells e.cs 30)) w1.heap.size d.cs 30 := ((CBlk.new w1 d.cs 30).later hb).later (below1 _ _)
  have g2 : CBlk (w2.alloc (.cells e.cs 30)) w2.heap.size e.cs 30 := CBlk.new _ _ _
  have nw : w1.heap.size ≤ w2.heap.size := by omega
  have b4 : Below w1.heap.size w1 ((((((((w2.alloc (.cells e.cs 30)).setCell ⟨w1.heap.size, 0, none⟩ (.int .i64 0)).setCell ⟨w1.heap.size, 1, none⟩ (.int .i64 0)).setCell ⟨w1.heap.size, 2, none⟩ (.string ⟨#[]⟩)).setCell ⟨w2.heap.size, 0, none⟩ (.int .i64 0)).setCell ⟨w2.heap.size, 1, none⟩ (.int .i64 0)).setCell ⟨w2.heap.size, 2, none⟩ (.string ⟨#[]⟩))) := (((((b0.setCell (show w1.heap.size ≤ w1.heap.size from Nat.le_refl _) _).setCell (show w1.heap.size ≤ w1.heap.size from Nat.le_refl _) _).setCell (show w1.heap.size ≤ w1.heap.size from Nat.le_refl _) _).setCell nw _).setCell nw _).setCell nw _
  have od := hd.ok.later b4
  have oe : e.ok ((((((((w2.alloc (.cells e.cs 30)).setCell ⟨w1.heap.size, 0, none⟩ (.int .i64 0)).setCell ⟨w1.heap.size, 1, none⟩ (.int .i64 0)).setCell ⟨w1.heap.size, 2, none⟩ (.string ⟨#[]⟩)).setCell ⟨w2.heap.size, 0, none⟩ (.int .i64 0)).setCell ⟨w2.heap.size, 1, none⟩ (.int .i64 0)).setCell ⟨w2.heap.size, 2, none⟩ (.string ⟨#[]⟩))) := he _ (by simp [World.setCell]) fun b h1 h2 => by
    rw [hs1] at h1
    rw [heap_setCell_other _ _ _ _ (show b ≠ w2.heap.size by omega), heap_setCell_other _ _ _ _ (show b ≠ w2.heap.size by omega), heap_setCell_other _ _ _ _ (show b ≠ w2.heap.size by omega), heap_setCell_other _ _ _ _ (show b ≠ w1.heap.size by omega), heap_setCell_other _ _ _ _ (show b ≠ w1.heap.size by omega), heap_setCell_other _ _ _ _ (show b ≠ w1.heap.size by omega)]
    exact (below1 w2 (.cells e.cs 30)).block b h2
  have g2' : CBlk ((((w2.alloc (.cells e.cs 30)).setCell ⟨w1.heap.size, 0, none⟩ (.int .i64 0)).setCell ⟨w1.heap.size, 1, none⟩ (.int .i64 0)).setCell ⟨w1.heap.size, 2, none⟩ (.string ⟨#[]⟩)) w2.heap.size e.cs 30 := ((g2.off ne.symm).off ne.symm).off ne.symm
  have k1 := ((((((g1.set 0 (.int .i64 0)).set 1 (.int .i64 0)).set 2 (.string ⟨#[]⟩)).off ne (i := 0) (v := .int .i64 0)).off ne (i := 1) (v := .int .i64 0)).off ne (i := 2) (v := .string ⟨#[]⟩))
  have k2 := (((g2'.set 0 (.int .i64 0)).set 1 (.int .i64 0)).set 2 (.string ⟨#[]⟩))
  exact ⟨⟨by simpa using k1, od.h, od.b, od.t⟩, ⟨by simpa using k2, oe.h, oe.b, oe.t⟩, b4, g2'⟩
set_option maxRecDepth 20000 in
set_option maxHeartbeats 2000000 in
theorem oneQuote_any (ca cb : Cm) (tx ox : ByteArray) (w : World) (ha : ca.ok w) (hb : cb.ok w) :
    Calls Try.prog 3 #[ca.v, cb.v, .string tx, .string ox] w fun e w' => e = .returned (.bool true) ∧ Below w.heap.size w w' := by
  obtain ⟨⟨a, hn, cap, h1⟩, ⟨a', cap', h2⟩, ⟨a'', cap'', h3⟩, -, -⟩ := ha.shape
  obtain ⟨⟨b, hn', bap, h4⟩, ⟨b', bap', h5⟩, ⟨b'', bap'', h6⟩, -, -⟩ := hb.shape
  have HM1 : Hid (∀ X : World, Below w.heap.size w X → Calls Try.prog 5 #[ca.v] X fun e w' => ∃ d : Cm, e = .returned d.v ∧ d.key = madeK ca.key ∧ MCl X.heap.size w' d ∧ Below X.heap.size X w') := fun X hX => made_any ca X (ha.later hX)
  have HM2 : Hid (∀ X : World, Below w.heap.size w X → Calls Try.prog 5 #[cb.v] X fun e w' => ∃ d : Cm, e = .returned d.v ∧ d.key = madeK cb.key ∧ MCl X.heap.size w' d ∧ Below X.heap.size X w') := fun X hX => made_any cb X (hb.later hX)
  have hva := made_val nmP_ok ca.key
  have hvb := made_val nmP_ok cb.key
  have hma : mis 0 (vrs (Ck.terms (madeK ca.key))) = false := norm_mis _
  have hmb : mis 0 (vrs (Ck.terms (madeK cb.key))) = false := norm_mis _
  generalize madeK ca.key = MA at HM1 hva hma
  generalize madeK cb.key = MB at HM2 hvb hmb
  have va := unq_val hva
  have vb := unq_val hvb
  have ma : mis 0 (vrs (Ck.terms (unq MA))) = false := by rw [unq_vars hva]; exact hma
  have mb : mis 0 (vrs (Ck.terms (unq MB))) = false := by rw [unq_vars hvb]; exact hmb
  have HKS : Hid (KS MA ∧ KS MB) := ⟨hva.ks, hvb.ks⟩
  obtain ⟨KA, hKA⟩ : ∃ K, unq MA = K := ⟨_, rfl⟩
  obtain ⟨KB, hKB⟩ : ∃ K, unq MB = K := ⟨_, rfl⟩
  have HKA : Hid (unq MA = KA ∧ unq MB = KB) := ⟨hKA, hKB⟩
  have hza : KA.1.by_ = zt := by rw [← hKA]; rfl
  have hzb : KB.1.by_ = zt := by rw [← hKB]; rfl
  rw [hKA] at va ma
  rw [hKB] at vb mb
  have HVV : Hid (∀ K, K = KA ∨ K = KB → Val0 K ∧ mis 0 (vrs (Ck.terms K)) = false ∧ K.1.by_ = zt) := fun K hK => by rcases hK with rfl | rfl; exact ⟨va, ma, hza⟩; exact ⟨vb, mb, hzb⟩
  have HQT : Hid (∀ (X : World) (u' : ByteArray) (c : Cm), c.key = KA ∨ c.key = KB → c.ok X → Calls Try.prog 7 #[.string (nmU u'), c.v] X fun e w' => ∃ d : Cm, e = .returned (.tuple #[d.v, .int .i64 0]) ∧ d.key = quoK (nmU u') c.key ∧ d.ok w' ∧ Below X.heap.size X w') := fun X u' c hK ho => by
    obtain ⟨hv, hm, hz⟩ := HVV.out c.key hK
    obtain ⟨m, hd, hvn⟩ := num_vars hm
    have hm72 := num_le hv hd
    exact quo4_any c (nmU u') X ho hv.ks (wf_of (fun t ht hvt => by have := hvn t ht hvt; omega) (Nat.le_trans hv.ks.len (by omega))) (nmU_prin u') (chk_zero hv.e hv.t hv.bl hv.tl hv.h hv.s hm) hz
  have HBA : Hid (∀ (X : World) (u' : ByteArray) (c : Cm), c.key = KA ∨ c.key = KB → c.ok X → Calls Try.prog 10 #[.string u', c.v] X fun e w' => ∃ d : Cm, e = .returned d.v ∧ d.key = barK u' c.key ∧ d.ok w' ∧ Below X.heap.size X w') := fun X u' c hK ho => bare_any u' c X ho (HVV.out c.key hK).1 (HVV.out c.key hK).2.1
  have HN1 : Hid (∀ X : World, Calls Try.prog 6 #[.string tx] X fun e w' => e = .returned (.string (nmU tx)) ∧ Below X.heap.size X w') := fun X => name3_any tx X
  have HN2 : Hid (∀ X : World, Calls Try.prog 6 #[.string ox] X fun e w' => e = .returned (.string (nmU ox)) ∧ Below X.heap.size X w') := fun X => name3_any ox X
  obtain ⟨U, hU⟩ : ∃ U, nmU tx = U := ⟨_, rfl⟩
  obtain ⟨V, hV⟩ : ∃ V, nmU ox = V := ⟨_, rfl⟩
  have HQU := fun X c => HQT.out X tx c
  have HQV := fun X c => HQT.out X ox c
  rw [hU] at HN1
  rw [hV] at HN2
  simp only [hU] at HQU
  simp only [hV] at HQV
  have HQU : Hid (∀ (X : World) (c : Cm), _) := HQU
  have HQV : Hid (∀ (X : World) (c : Cm), _) := HQV
  have HB0 : Hid (CBlk ((w.alloc (.cells ca.cs 30)).alloc (.cells cb.cs 30)) (w.heap.size + 1) cb.cs 30) := by
    have := CBlk.new (w.alloc (.cells ca.cs 30)) cb.cs 30
    rwa [show (w.alloc (.cells ca.cs 30)).heap.size = w.heap.size + 1 by simp] at this
  obtain ⟨⟨⟨⟨k, m, s⟩, nm, ls⟩, hx⟩, body, bv, tests, tv⟩ := ca
  obtain ⟨⟨⟨⟨k', m', s'⟩, nm', ls'⟩, hx'⟩, body', bv', tests', tv'⟩ := cb
  simp only at h1 h2 h3 h4 h5 h6
  subst h1 h2 h3 h4 h5 h6
  clear ha hb hKA hKB hU hV hva hvb hma hmb va vb ma mb HQT
  go_enter Try.func3, Try.ntmps3
  go_upto_region 2 with (go_at_call 5; refine (HM1.out _ (below2 _ _ _)).mono ?_; clear HM1; rintro x w1 ⟨d, rfl, hdk, hmc, hb1⟩; have hkp := hmc.kp (by rw [hdk]; exact HKS.out.1); obtain ⟨⟨d1, d2, d3, tz1⟩, ⟨d4, d6, tz2⟩, ⟨d7, d9, tz3⟩, -, -⟩ := (hkp.ok).shape; obtain ⟨d5, tz4⟩ : ∃ n, n = d.body.length := ⟨_, rfl⟩; obtain ⟨d8, tz5⟩ : ∃ n, n = d.tests.length := ⟨_, rfl⟩; rw [← tz4] at tz2; rw [← tz5] at tz3; obtain ⟨⟨⟨⟨dk, dn, ds⟩, dm, da⟩, dv⟩, db, dbv, dt, dtv⟩ := d; simp only at tz1 tz2 tz3; subst tz1 tz2 tz3; clear tz4 tz5; have HD : Hid (Cm.key ⟨(⟨⟨dk, dn, ds⟩, dm, da⟩, .slice d1 d2 d3), db, .slice d4 d5 d6, dt, .slice d7 d8 d9⟩ = MA) := hdk; have HDP : Hid (Kp _ w1 ⟨(⟨⟨dk, dn, ds⟩, dm, da⟩, .slice d1 d2 d3), db, .slice d4 d5 d6, dt, .slice d7 d8 d9⟩) := hkp; have HB1 : Hid (CBlk (w1.alloc (.cells (Cm.cs ⟨(⟨⟨dk, dn, ds⟩, dm, da⟩, .slice d1 d2 d3), db, .slice d4 d5 d6, dt, .slice d7 d8 d9⟩) 30)) (w.heap.size + 1) _ 30) := (HB0.out.later hb1).later (below1 _ _); have HW1 : Hid (Below w.heap.size w w1) := below_step (below2 _ _ _) hb1; clear hb1 hkp hmc hdk HB0)
  obtain ⟨c0, c1, c2, c3, c4, c5, c6⟩ := cseven HB1.out
  go_upto_region 3 with (go_at_call 5; refine (HM2.out _ (below_step HW1.out (below1 _ _))).mono ?_; clear HM2; rintro x w2 ⟨d, rfl, hdk, hmc, hb2⟩; have hkp := hmc.kp (by rw [hdk]; exact HKS.out.2); obtain ⟨⟨e1, e2, e3, tz1⟩, ⟨e4, e6, tz2⟩, ⟨e7, e9, tz3⟩, -, -⟩ := (hkp.ok).shape; obtain ⟨e5, tz4⟩ : ∃ n, n = d.body.length := ⟨_, rfl⟩; obtain ⟨e8, tz5⟩ : ∃ n, n = d.tests.length := ⟨_, rfl⟩; rw [← tz4] at tz2; rw [← tz5] at tz3; obtain ⟨⟨⟨⟨ek, en, es⟩, em, ea⟩, ev⟩, eb, ebv, et, etv⟩ := d; simp only at tz1 tz2 tz3; subst tz1 tz2 tz3; clear tz4 tz5; have HE : Hid (Cm.key ⟨(⟨⟨ek, en, es⟩, em, ea⟩, .slice e1 e2 e3), eb, .slice e4 e5 e6, et, .slice e7 e8 e9⟩ = MB) := hdk; have HT : Hid _ := twoBxs (e := ⟨(⟨⟨ek, en, es⟩, em, ea⟩, .slice e1 e2 e3), eb, .slice e4 e5 e6, et, .slice e7 e8 e9⟩) HDP.out hb2 hkp; have HW2 : Hid (CBlk (w2.alloc (.cells (Cm.cs ⟨(⟨⟨ek, en, es⟩, em, ea⟩, .slice e1 e2 e3), eb, .slice e4 e5 e6, et, .slice e7 e8 e9⟩) 30)) w1.heap.size (Cm.cs ⟨(⟨⟨dk, dn, ds⟩, dm, da⟩, .slice d1 d2 d3), db, .slice d4 d5 d6, dt, .slice d7 d8 d9⟩) 30) := ((CBlk.new w1 (Cm.cs ⟨(⟨⟨dk, dn, ds⟩, dm, da⟩, .slice d1 d2 d3), db, .slice d4 d5 d6, dt, .slice d7 d8 d9⟩) 30).later hb2).later (below1 _ _); clear hb2 hkp hmc hdk HB1 c0 c1 c2 c3 c4 c5 c6)
  obtain ⟨c0, c1, c2, c3, c4, c5, c6⟩ := cseven HW2.out
  have f0 : (w2.alloc (.cells #[.int .i64 ek, .int .i64 en, .string es, .string em, .slice e1 e2 e3, .slice e4 e5 e6, .slice e7 e8 e9] 30)).frozen? ⟨w1.heap.size, 0, none⟩ = false := HW2.out.froz
  have f1 : (w2.alloc (.cells #[.int .i64 ek, .int .i64 en, .string es, .string em, .slice e1 e2 e3, .slice e4 e5 e6, .slice e7 e8 e9] 30)).frozen? ⟨w1.heap.size, 1, none⟩ = false := HW2.out.froz
  have f2 : (w2.alloc (.cells #[.int .i64 ek, .int .i64 en, .string es, .string em, .slice e1 e2 e3, .slice e4 e5 e6, .slice e7 e8 e9] 30)).frozen? ⟨w1.heap.size, 2, none⟩ = false := HW2.out.froz
  go_upto_region 4 with fail
  clear c0 c1 c2 c3 c4 c5 c6 f0 f1 f2 HW2
  obtain ⟨c0, c1, c2, c3, c4, c5, c6⟩ := cseven HT.out.2.2.2
  have f0 : ((((w2.alloc (.cells #[.int .i64 ek, .int .i64 en, .string es, .string em, .slice e1 e2 e3, .slice e4 e5 e6, .slice e7 e8 e9] 30)).setCell ⟨w1.heap.size, 0, none⟩ (.int .i64 0)).setCell ⟨w1.heap.size, 1, none⟩ (.int .i64 0)).setCell ⟨w1.heap.size, 2, none⟩ (.string ⟨#[]⟩)).frozen? ⟨w2.heap.size, 0, none⟩ = false := HT.out.2.2.2.froz
  have f1 : ((((w2.alloc (.cells #[.int .i64 ek, .int .i64 en, .string es, .string em, .slice e1 e2 e3, .slice e4 e5 e6, .slice e7 e8 e9] 30)).setCell ⟨w1.heap.size, 0, none⟩ (.int .i64 0)).setCell ⟨w1.heap.size, 1, none⟩ (.int .i64 0)).setCell ⟨w1.heap.size, 2, none⟩ (.string ⟨#[]⟩)).frozen? ⟨w2.heap.size, 1, none⟩ = false := HT.out.2.2.2.froz
  have f2 : ((((w2.alloc (.cells #[.int .i64 ek, .int .i64 en, .string es, .string em, .slice e1 e2 e3, .slice e4 e5 e6, .slice e7 e8 e9] 30)).setCell ⟨w1.heap.size, 0, none⟩ (.int .i64 0)).setCell ⟨w1.heap.size, 1, none⟩ (.int .i64 0)).setCell ⟨w1.heap.size, 2, none⟩ (.string ⟨#[]⟩)).frozen? ⟨w2.heap.size, 2, none⟩ = false := HT.out.2.2.2.froz
  go_upto_region 5 with fail
  clear c0 c1 c2 c3 c4 c5 c6 f0 f1 f2
  have HX : Hid (Bx (((((((w2.alloc (.cells #[.int .i64 ek, .int .i64 en, .string es, .string em, .slice e1 e2 e3, .slice e4 e5 e6, .slice e7 e8 e9] 30)).setCell ⟨w1.heap.size, 0, none⟩ (.int .i64 0)).setCell ⟨w1.heap.size, 1, none⟩ (.int .i64 0)).setCell ⟨w1.heap.size, 2, none⟩ (.string ⟨#[]⟩)).setCell ⟨w2.heap.size, 0, none⟩ (.int .i64 0)).setCell ⟨w2.heap.size, 1, none⟩ (.int .i64 0)).setCell ⟨w2.heap.size, 2, none⟩ (.string ⟨#[]⟩)) w1.heap.size ⟨(⟨⟨0, 0, ⟨#[]⟩⟩, dm, da⟩, .slice d1 d2 d3), db, .slice d4 d5 d6, dt, .slice d7 d8 d9⟩) := HT.out.1
  have HY : Hid (Bx (((((((w2.alloc (.cells #[.int .i64 ek, .int .i64 en, .string es, .string em, .slice e1 e2 e3, .slice e4 e5 e6, .slice e7 e8 e9] 30)).setCell ⟨w1.heap.size, 0, none⟩ (.int .i64 0)).setCell ⟨w1.heap.size, 1, none⟩ (.int .i64 0)).setCell ⟨w1.heap.size, 2, none⟩ (.string ⟨#[]⟩)).setCell ⟨w2.heap.size, 0, none⟩ (.int .i64 0)).setCell ⟨w2.heap.size, 1, none⟩ (.int .i64 0)).setCell ⟨w2.heap.size, 2, none⟩ (.string ⟨#[]⟩)) w2.heap.size ⟨(⟨⟨0, 0, ⟨#[]⟩⟩, em, ea⟩, .slice e1 e2 e3), eb, .slice e4 e5 e6, et, .slice e7 e8 e9⟩) := HT.out.2.1
  have HW : Hid (Below w.heap.size w (((((((w2.alloc (.cells #[.int .i64 ek, .int .i64 en, .string es, .string em, .slice e1 e2 e3, .slice e4 e5 e6, .slice e7 e8 e9] 30)).setCell ⟨w1.heap.size, 0, none⟩ (.int .i64 0)).setCell ⟨w1.heap.size, 1, none⟩ (.int .i64 0)).setCell ⟨w1.heap.size, 2, none⟩ (.string ⟨#[]⟩)).setCell ⟨w2.heap.size, 0, none⟩ (.int .i64 0)).setCell ⟨w2.heap.size, 1, none⟩ (.int .i64 0)).setCell ⟨w2.heap.size, 2, none⟩ (.string ⟨#[]⟩))) := below_step HW1.out HT.out.2.2.1
  have HXK : Hid (Cm.key ⟨(⟨⟨0, 0, ⟨#[]⟩⟩, dm, da⟩, .slice d1 d2 d3), db, .slice d4 d5 d6, dt, .slice d7 d8 d9⟩ = KA) := by show _ = _; rw [← HKA.out.1, ← HD.out]; rfl
  have HYK : Hid (Cm.key ⟨(⟨⟨0, 0, ⟨#[]⟩⟩, em, ea⟩, .slice e1 e2 e3), eb, .slice e4 e5 e6, et, .slice e7 e8 e9⟩ = KB) := by show _ = _; rw [← HKA.out.2, ← HE.out]; rfl
  clear HT HW1 HDP HD HE HKS
  revert HX HY HW
  generalize (((((((w2.alloc (.cells #[.int .i64 ek, .int .i64 en, .string es, .string em, .slice e1 e2 e3, .slice e4 e5 e6, .slice e7 e8 e9] 30)).setCell ⟨w1.heap.size, 0, none⟩ (.int .i64 0)).setCell ⟨w1.heap.size, 1, none⟩ (.int .i64 0)).setCell ⟨w1.heap.size, 2, none⟩ (.string ⟨#[]⟩)).setCell ⟨w2.heap.size, 0, none⟩ (.int .i64 0)).setCell ⟨w2.heap.size, 1, none⟩ (.int .i64 0)).setCell ⟨w2.heap.size, 2, none⟩ (.string ⟨#[]⟩)) = X5
  generalize w1.heap.size = Gd
  generalize w2.heap.size = Ge
  intro HX HY HW
  go_upto_region 6 with (go_at_call 6; refine (HN1.out _).mono ?_; clear HN1; rintro x w3 ⟨rfl, hb⟩; have HX3 : Hid (Bx w3 Gd ⟨(⟨⟨0, 0, ⟨#[]⟩⟩, dm, da⟩, .slice d1 d2 d3), db, .slice d4 d5 d6, dt, .slice d7 d8 d9⟩) := HX.out.later hb; have HY3 : Hid (Bx w3 Ge ⟨(⟨⟨0, 0, ⟨#[]⟩⟩, em, ea⟩, .slice e1 e2 e3), eb, .slice e4 e5 e6, et, .slice e7 e8 e9⟩) := HY.out.later hb; have HW3 : Hid (Below w.heap.size w w3) := below_step HW.out hb; clear hb HX HY HW)
  go_upto_region 7 with (go_at_call 6; refine (HN2.out _).mono ?_; clear HN2; rintro x w4 ⟨rfl, hb⟩; have HX : Hid (Bx w4 Gd ⟨(⟨⟨0, 0, ⟨#[]⟩⟩, dm, da⟩, .slice d1 d2 d3), db, .slice d4 d5 d6, dt, .slice d7 d8 d9⟩) := HX3.out.later hb; have HY : Hid (Bx w4 Ge ⟨(⟨⟨0, 0, ⟨#[]⟩⟩, em, ea⟩, .slice e1 e2 e3), eb, .slice e4 e5 e6, et, .slice e7 e8 e9⟩) := HY3.out.later hb; have HW : Hid (Below w.heap.size w w4) := below_step HW3.out hb; clear hb HX3 HY3 HW3)
  obtain ⟨c0, c1, c2, c3, c4, c5, c6⟩ := cseven HX.out.b
  go_upto_region 8 with (go_at_call 7; refine (HQU.out _ ⟨(⟨⟨0, 0, ⟨#[]⟩⟩, dm, da⟩, .slice d1 d2 d3), db, .slice d4 d5 d6, dt, .slice d7 d8 d9⟩ (Or.inl HXK.out) HX.out.o).mono ?_; rintro x wq ⟨dd, rfl, hqk, hqo, hb⟩; obtain ⟨⟨p1, p2, p3, tz1⟩, ⟨p4, p6, tz2⟩, ⟨p7, p9, tz3⟩, -, -⟩ := (hqo).shape; obtain ⟨p5, tz4⟩ : ∃ n, n = dd.body.length := ⟨_, rfl⟩; obtain ⟨p8, tz5⟩ : ∃ n, n = dd.tests.length := ⟨_, rfl⟩; rw [← tz4] at tz2; rw [← tz5] at tz3; obtain ⟨⟨⟨⟨pk, pn, ps⟩, pm, pa⟩, pv⟩, pb, pbv, pt, ptv⟩ := dd; simp only at tz1 tz2 tz3; subst tz1 tz2 tz3; clear tz4 tz5; have N0 : Hid (Bx (wq.alloc (.cells (Cm.cs ⟨(⟨⟨pk, pn, ps⟩, pm, pa⟩, .slice p1 p2 p3), pb, .slice p4 p5 p6, pt, .slice p7 p8 p9⟩) 30)) wq.heap.size ⟨(⟨⟨pk, pn, ps⟩, pm, pa⟩, .slice p1 p2 p3), pb, .slice p4 p5 p6, pt, .slice p7 p8 p9⟩) := Bx.new hqo; have N1 : Hid (Cm.key ⟨(⟨⟨pk, pn, ps⟩, pm, pa⟩, .slice p1 p2 p3), pb, .slice p4 p5 p6, pt, .slice p7 p8 p9⟩ = quoK U KA) := (by show _ = _; rw [hqk, HXK.out]); have K0 : Hid (Bx (wq.alloc (.cells (Cm.cs ⟨(⟨⟨pk, pn, ps⟩, pm, pa⟩, .slice p1 p2 p3), pb, .slice p4 p5 p6, pt, .slice p7 p8 p9⟩) 30)) Gd ⟨(⟨⟨0, 0, ⟨#[]⟩⟩, dm, da⟩, .slice d1 d2 d3), db, .slice d4 d5 d6, dt, .slice d7 d8 d9⟩) := (HX.out.later hb).later (below1 _ _); have K1 : Hid (Bx (wq.alloc (.cells (Cm.cs ⟨(⟨⟨pk, pn, ps⟩, pm, pa⟩, .slice p1 p2 p3), pb, .slice p4 p5 p6, pt, .slice p7 p8 p9⟩) 30)) Ge ⟨(⟨⟨0, 0, ⟨#[]⟩⟩, em, ea⟩, .slice e1 e2 e3), eb, .slice e4 e5 e6, et, .slice e7 e8 e9⟩) := (HY.out.later hb).later (below1 _ _); have KW : Hid (Below w.heap.size w (wq.alloc (.cells (Cm.cs ⟨(⟨⟨pk, pn, ps⟩, pm, pa⟩, .slice p1 p2 p3), pb, .slice p4 p5 p6, pt, .slice p7 p8 p9⟩) 30))) := below_step (below_step HW.out hb) (below1 _ _); clear hb hqo hqk HW HX HY c0 c1 c2 c3 c4 c5 c6)
  revert N0 K0 K1 KW
  generalize wq.alloc (.cells #[.int .i64 pk, .int .i64 pn, .string ps, .string pm, .slice p1 p2 p3, .slice p4 p5 p6, .slice p7 p8 p9] 30) = w5
  generalize wq.heap.size = Gp
  intro N0 K0 K1 KW
  have HP := N0
  have HPK := N1
  have HW := KW
  have HX := K0
  have HY := K1
  clear N0 N1 KW K0 K1
  obtain ⟨c0, c1, c2, c3, c4, c5, c6⟩ := cseven HY.out.b
  go_upto_region 9 with (go_at_call 7; refine (HQU.out _ ⟨(⟨⟨0, 0, ⟨#[]⟩⟩, em, ea⟩, .slice e1 e2 e3), eb, .slice e4 e5 e6, et, .slice e7 e8 e9⟩ (Or.inr HYK.out) HY.out.o).mono ?_; rintro x wq ⟨dd, rfl, hqk, hqo, hb⟩; obtain ⟨⟨q1, q2, q3, tz1⟩, ⟨q4, q6, tz2⟩, ⟨q7, q9, tz3⟩, -, -⟩ := (hqo).shape; obtain ⟨q5, tz4⟩ : ∃ n, n = dd.body.length := ⟨_, rfl⟩; obtain ⟨q8, tz5⟩ : ∃ n, n = dd.tests.length := ⟨_, rfl⟩; rw [← tz4] at tz2; rw [← tz5] at tz3; obtain ⟨⟨⟨⟨qk, qn, qs⟩, qm, qa⟩, qv⟩, qb, qbv, qt, qtv⟩ := dd; simp only at tz1 tz2 tz3; subst tz1 tz2 tz3; clear tz4 tz5; have N0 : Hid (Bx (wq.alloc (.cells (Cm.cs ⟨(⟨⟨qk, qn, qs⟩, qm, qa⟩, .slice q1 q2 q3), qb, .slice q4 q5 q6, qt, .slice q7 q8 q9⟩) 30)) wq.heap.size ⟨(⟨⟨qk, qn, qs⟩, qm, qa⟩, .slice q1 q2 q3), qb, .slice q4 q5 q6, qt, .slice q7 q8 q9⟩) := Bx.new hqo; have N1 : Hid (Cm.key ⟨(⟨⟨qk, qn, qs⟩, qm, qa⟩, .slice q1 q2 q3), qb, .slice q4 q5 q6, qt, .slice q7 q8 q9⟩ = quoK U KB) := (by show _ = _; rw [hqk, HYK.out]); have K0 : Hid (Bx (wq.alloc (.cells (Cm.cs ⟨(⟨⟨qk, qn, qs⟩, qm, qa⟩, .slice q1 q2 q3), qb, .slice q4 q5 q6, qt, .slice q7 q8 q9⟩) 30)) Gd ⟨(⟨⟨0, 0, ⟨#[]⟩⟩, dm, da⟩, .slice d1 d2 d3), db, .slice d4 d5 d6, dt, .slice d7 d8 d9⟩) := (HX.out.later hb).later (below1 _ _); have K1 : Hid (Bx (wq.alloc (.cells (Cm.cs ⟨(⟨⟨qk, qn, qs⟩, qm, qa⟩, .slice q1 q2 q3), qb, .slice q4 q5 q6, qt, .slice q7 q8 q9⟩) 30)) Ge ⟨(⟨⟨0, 0, ⟨#[]⟩⟩, em, ea⟩, .slice e1 e2 e3), eb, .slice e4 e5 e6, et, .slice e7 e8 e9⟩) := (HY.out.later hb).later (below1 _ _); have K2 : Hid (Bx (wq.alloc (.cells (Cm.cs ⟨(⟨⟨qk, qn, qs⟩, qm, qa⟩, .slice q1 q2 q3), qb, .slice q4 q5 q6, qt, .slice q7 q8 q9⟩) 30)) Gp ⟨(⟨⟨pk, pn, ps⟩, pm, pa⟩, .slice p1 p2 p3), pb, .slice p4 p5 p6, pt, .slice p7 p8 p9⟩) := (HP.out.later hb).later (below1 _ _); have KW : Hid (Below w.heap.size w (wq.alloc (.cells (Cm.cs ⟨(⟨⟨qk, qn, qs⟩, qm, qa⟩, .slice q1 q2 q3), qb, .slice q4 q5 q6, qt, .slice q7 q8 q9⟩) 30))) := below_step (below_step HW.out hb) (below1 _ _); clear hb hqo hqk HW HX HY HP c0 c1 c2 c3 c4 c5 c6)
  revert N0 K0 K1 K2 KW
  generalize wq.alloc (.cells #[.int .i64 qk, .int .i64 qn, .string qs, .string qm, .slice q1 q2 q3, .slice q4 q5 q6, .slice q7 q8 q9] 30) = w6
  generalize wq.heap.size = Gq
  intro N0 K0 K1 K2 KW
  have HQ := N0
  have HQK := N1
  have HW := KW
  have HX := K0
  have HY := K1
  have HP := K2
  clear N0 N1 KW K0 K1 K2
  obtain ⟨c0, c1, c2, c3, c4, c5, c6⟩ := cseven HX.out.b
  go_upto_region 10 with (go_at_call 7; refine (HQV.out _ ⟨(⟨⟨0, 0, ⟨#[]⟩⟩, dm, da⟩, .slice d1 d2 d3), db, .slice d4 d5 d6, dt, .slice d7 d8 d9⟩ (Or.inl HXK.out) HX.out.o).mono ?_; rintro x wq ⟨dd, rfl, hqk, hqo, hb⟩; obtain ⟨⟨r1, r2, r3, tz1⟩, ⟨r4, r6, tz2⟩, ⟨r7, r9, tz3⟩, -, -⟩ := (hqo).shape; obtain ⟨r5, tz4⟩ : ∃ n, n = dd.body.length := ⟨_, rfl⟩; obtain ⟨r8, tz5⟩ : ∃ n, n = dd.tests.length := ⟨_, rfl⟩; rw [← tz4] at tz2; rw [← tz5] at tz3; obtain ⟨⟨⟨⟨rk, rn, rs⟩, rm, ra⟩, rv⟩, rb, rbv, rt, rtv⟩ := dd; simp only at tz1 tz2 tz3; subst tz1 tz2 tz3; clear tz4 tz5; have N0 : Hid (Bx (wq.alloc (.cells (Cm.cs ⟨(⟨⟨rk, rn, rs⟩, rm, ra⟩, .slice r1 r2 r3), rb, .slice r4 r5 r6, rt, .slice r7 r8 r9⟩) 30)) wq.heap.size ⟨(⟨⟨rk, rn, rs⟩, rm, ra⟩, .slice r1 r2 r3), rb, .slice r4 r5 r6, rt, .slice r7 r8 r9⟩) := Bx.new hqo; have N1 : Hid (Cm.key ⟨(⟨⟨rk, rn, rs⟩, rm, ra⟩, .slice r1 r2 r3), rb, .slice r4 r5 r6, rt, .slice r7 r8 r9⟩ = quoK V KA) := (by show _ = _; rw [hqk, HXK.out]); have K0 : Hid (Bx (wq.alloc (.cells (Cm.cs ⟨(⟨⟨rk, rn, rs⟩, rm, ra⟩, .slice r1 r2 r3), rb, .slice r4 r5 r6, rt, .slice r7 r8 r9⟩) 30)) Gd ⟨(⟨⟨0, 0, ⟨#[]⟩⟩, dm, da⟩, .slice d1 d2 d3), db, .slice d4 d5 d6, dt, .slice d7 d8 d9⟩) := (HX.out.later hb).later (below1 _ _); have K1 : Hid (Bx (wq.alloc (.cells (Cm.cs ⟨(⟨⟨rk, rn, rs⟩, rm, ra⟩, .slice r1 r2 r3), rb, .slice r4 r5 r6, rt, .slice r7 r8 r9⟩) 30)) Ge ⟨(⟨⟨0, 0, ⟨#[]⟩⟩, em, ea⟩, .slice e1 e2 e3), eb, .slice e4 e5 e6, et, .slice e7 e8 e9⟩) := (HY.out.later hb).later (below1 _ _); have K2 : Hid (Bx (wq.alloc (.cells (Cm.cs ⟨(⟨⟨rk, rn, rs⟩, rm, ra⟩, .slice r1 r2 r3), rb, .slice r4 r5 r6, rt, .slice r7 r8 r9⟩) 30)) Gp ⟨(⟨⟨pk, pn, ps⟩, pm, pa⟩, .slice p1 p2 p3), pb, .slice p4 p5 p6, pt, .slice p7 p8 p9⟩) := (HP.out.later hb).later (below1 _ _); have K3 : Hid (Bx (wq.alloc (.cells (Cm.cs ⟨(⟨⟨rk, rn, rs⟩, rm, ra⟩, .slice r1 r2 r3), rb, .slice r4 r5 r6, rt, .slice r7 r8 r9⟩) 30)) Gq ⟨(⟨⟨qk, qn, qs⟩, qm, qa⟩, .slice q1 q2 q3), qb, .slice q4 q5 q6, qt, .slice q7 q8 q9⟩) := (HQ.out.later hb).later (below1 _ _); have KW : Hid (Below w.heap.size w (wq.alloc (.cells (Cm.cs ⟨(⟨⟨rk, rn, rs⟩, rm, ra⟩, .slice r1 r2 r3), rb, .slice r4 r5 r6, rt, .slice r7 r8 r9⟩) 30))) := below_step (below_step HW.out hb) (below1 _ _); clear hb hqo hqk HW HX HY HP HQ c0 c1 c2 c3 c4 c5 c6)
  revert N0 K0 K1 K2 K3 KW
  generalize wq.alloc (.cells #[.int .i64 rk, .int .i64 rn, .string rs, .string rm, .slice r1 r2 r3, .slice r4 r5 r6, .slice r7 r8 r9] 30) = w7
  generalize wq.heap.size = Gr
  intro N0 K0 K1 K2 K3 KW
  have HR := N0
  have HRK := N1
  have HW := KW
  have HX := K0
  have HY := K1
  have HP := K2
  have HQ := K3
  clear N0 N1 KW K0 K1 K2 K3
  obtain ⟨CC, hCC⟩ : ∃ C, cmpC (quoK U KA) (quoK U KB) = C := ⟨_, rfl⟩
  obtain ⟨SS, hSS⟩ : ∃ S, decide (barK U KA = barK U KB) = S := ⟨_, rfl⟩
  have HSS : Hid (decide (barK U KA = barK U KB) = SS) := hSS
  have HNQ : Hid ((CC == 0) = SS) := by
    have e : (CC == 0) = SS := by
      rw [← hSS, ← hCC, Bool.eq_iff_iff, beq_iff_eq, decide_eq_true_iff, ← one_quote (HVV.out KA (Or.inl rfl)).2.2 (HVV.out KB (Or.inr rfl)).2.2]
      exact ⟨ord_c.zero _ _, fun e => by rw [e]; exact ord_c.refl _⟩
    exact e
  have HCM : Hid (∀ X : World, Below w7.heap.size w7 X → Calls Try.prog 8 #[Cm.v ⟨(⟨⟨pk, pn, ps⟩, pm, pa⟩, .slice p1 p2 p3), pb, .slice p4 p5 p6, pt, .slice p7 p8 p9⟩, Cm.v ⟨(⟨⟨qk, qn, qs⟩, qm, qa⟩, .slice q1 q2 q3), qb, .slice q4 q5 q6, qt, .slice q7 q8 q9⟩] X fun e w' => e = .returned (.int .i64 CC) ∧ Below X.heap.size X w') := fun X hX => by
    have := compareC_any ⟨(⟨⟨pk, pn, ps⟩, pm, pa⟩, .slice p1 p2 p3), pb, .slice p4 p5 p6, pt, .slice p7 p8 p9⟩ ⟨(⟨⟨qk, qn, qs⟩, qm, qa⟩, .slice q1 q2 q3), qb, .slice q4 q5 q6, qt, .slice q7 q8 q9⟩ X (HP.out.later hX).o (HQ.out.later hX).o
    rw [cmp_key, HPK.out, HQK.out, hCC] at this; exact this
  have HBX : Hid (∀ X : World, Below w7.heap.size w7 X → Calls Try.prog 10 #[.string U, Cm.v ⟨(⟨⟨0, 0, ⟨#[]⟩⟩, dm, da⟩, .slice d1 d2 d3), db, .slice d4 d5 d6, dt, .slice d7 d8 d9⟩] X fun e w' => ∃ d : Cm, e = .returned d.v ∧ d.key = barK U KA ∧ d.ok w' ∧ Below X.heap.size X w') := fun X hX => by
    have := HBA.out X U ⟨(⟨⟨0, 0, ⟨#[]⟩⟩, dm, da⟩, .slice d1 d2 d3), db, .slice d4 d5 d6, dt, .slice d7 d8 d9⟩ (Or.inl HXK.out) (HX.out.later hX).o; rw [HXK.out] at this; exact this
  have HBY : Hid (∀ X : World, Below w7.heap.size w7 X → Calls Try.prog 10 #[.string U, Cm.v ⟨(⟨⟨0, 0, ⟨#[]⟩⟩, em, ea⟩, .slice e1 e2 e3), eb, .slice e4 e5 e6, et, .slice e7 e8 e9⟩] X fun e w' => ∃ d : Cm, e = .returned d.v ∧ d.key = barK U KB ∧ d.ok w' ∧ Below X.heap.size X w') := fun X hX => by
    have := HBA.out X U ⟨(⟨⟨0, 0, ⟨#[]⟩⟩, em, ea⟩, .slice e1 e2 e3), eb, .slice e4 e5 e6, et, .slice e7 e8 e9⟩ (Or.inr HYK.out) (HY.out.later hX).o; rw [HYK.out] at this; exact this
  clear hCC hSS HBA HQU HQV
  go_wp2_with fail
  go_cut [72] from 61 (fun s72 wx => s72 = .bool false ∧ Below w7.heap.size w7 wx)
  case first =>
    refine wp_region_held_drew (S := fun w' => Below w7.heap.size w7 w') (by kernel_rfl) (Below.refl _ _).drew (fun hH => ?_)
    revert hH
    generalize w7.drew = V0
    intro hH
    refine wpAnyH_take (i := 0) (oi := ⟨_, _, _, _, _, _⟩) (v := .agg #[.int .i64 pk, .int .i64 pn, .string ps, .string pm, .slice p1 p2 p3, .slice p4 p5 p6, .slice p7 p8 p9]) rfl (by kernel_rfl) (by kernel_rfl) (by kernel_rfl) (fun _ _ _ h => h) (Or.inl ⟨by rfl, fun w' h => by obtain ⟨c0, c1, c2, c3, c4, c5, c6⟩ := cseven (CBlk.later (Hid.out HP).b h); clear h; go_simp⟩) hH ?_
    simp only [Act.put, List.setIfInBounds_toArray, List.set_cons_zero, List.set_cons_succ]
    refine wpAnyH_take (i := 1) (oi := ⟨_, _, _, _, _, _⟩) (v := .agg #[.int .i64 qk, .int .i64 qn, .string qs, .string qm, .slice q1 q2 q3, .slice q4 q5 q6, .slice q7 q8 q9]) rfl (by kernel_rfl) (by kernel_rfl) (by kernel_rfl) (fun _ _ _ h => h) (Or.inl ⟨by rfl, fun w' h => by obtain ⟨c0, c1, c2, c3, c4, c5, c6⟩ := cseven (CBlk.later (Hid.out HQ).b h); clear h; go_simp⟩) hH ?_
    simp only [Act.put, List.setIfInBounds_toArray, List.set_cons_zero, List.set_cons_succ]
    refine wpAnyH_take (i := 4) (oi := ⟨_, _, _, _, _, _⟩) (v := .string U) rfl (by kernel_rfl) (by kernel_rfl) (by kernel_rfl) (fun _ _ _ h => h) (Or.inl ⟨by rfl, fun w' h => by clear h; go_simp⟩) hH ?_
    simp only [Act.put, List.setIfInBounds_toArray, List.set_cons_zero, List.set_cons_succ]
    refine wpAnyH_take (i := 5) (oi := ⟨_, _, _, _, _, _⟩) (v := .agg #[.int .i64 0, .int .i64 0, .string ⟨#[]⟩, .string dm, .slice d1 d2 d3, .slice d4 d5 d6, .slice d7 d8 d9]) rfl (by kernel_rfl) (by kernel_rfl) (by kernel_rfl) (fun _ _ _ h => h) (Or.inl ⟨by rfl, fun w' h => by obtain ⟨c0, c1, c2, c3, c4, c5, c6⟩ := cseven (CBlk.later (Hid.out HX).b h); clear h; go_simp⟩) hH ?_
    simp only [Act.put, List.setIfInBounds_toArray, List.set_cons_zero, List.set_cons_succ]
    refine wpAnyH_take (i := 7) (oi := ⟨_, _, _, _, _, _⟩) (v := .string U) rfl (by kernel_rfl) (by kernel_rfl) (by kernel_rfl) (fun _ _ _ h => h) (Or.inl ⟨by rfl, fun w' h => by clear h; go_simp⟩) hH ?_
    simp only [Act.put, List.setIfInBounds_toArray, List.set_cons_zero, List.set_cons_succ]
    refine wpAnyH_take (i := 8) (oi := ⟨_, _, _, _, _, _⟩) (v := .agg #[.int .i64 0, .int .i64 0, .string ⟨#[]⟩, .string em, .slice e1 e2 e3, .slice e4 e5 e6, .slice e7 e8 e9]) rfl (by kernel_rfl) (by kernel_rfl) (by kernel_rfl) (fun _ _ _ h => h) (Or.inl ⟨by rfl, fun w' h => by obtain ⟨c0, c1, c2, c3, c4, c5, c6⟩ := cseven (CBlk.later (Hid.out HY).b h); clear h; go_simp⟩) hH ?_
    simp only [Act.put, List.setIfInBounds_toArray, List.set_cons_zero, List.set_cons_succ]
    refine wpAnyH_ready (rs := [2]) (by kernel_rfl) (by simp) ?_
    refine (AllReadyH.cons (o := ⟨_, _, _, _, _, _⟩) rfl (fun K hK => ?_) AllReadyH.nil)
    go_simp
    refine (HCM.out _ hH).mono ?_
    rintro x V1 ⟨rfl, hb⟩
    refine hK.out _ _ (below_step hH hb) (fun hH => ?_)
    clear hK K hb
    try simp only [Act.put, List.setIfInBounds_toArray, List.set_cons_zero, List.set_cons_succ]
    refine wpAnyH_take (i := 3) (oi := ⟨_, _, _, _, _, _⟩) (v := .bool (CC == 0)) rfl (by kernel_rfl) (by kernel_rfl) (by kernel_rfl) (fun _ _ _ h => h) (Or.inl ⟨by rfl, fun w' h => by clear h; go_simp⟩) hH ?_
    simp only [Act.put, List.setIfInBounds_toArray, List.set_cons_zero, List.set_cons_succ]
    refine wpAnyH_ready (rs := [6]) (by kernel_rfl) (by simp) ?_
    refine (AllReadyH.cons (o := ⟨_, _, _, _, _, _⟩) rfl (fun K hK => ?_) AllReadyH.nil)
    go_simp
    refine (HBX.out _ hH).mono ?_
    rintro x V2 ⟨bx, rfl, hbk, hbo, hb⟩
    obtain ⟨⟨f1, f2, f3, tz1⟩, ⟨f4, f6, tz2⟩, ⟨f7, f9, tz3⟩, -, -⟩ := (hbo).shape
    obtain ⟨f5, tz4⟩ : ∃ n, n = bx.body.length := ⟨_, rfl⟩
    obtain ⟨f8, tz5⟩ : ∃ n, n = bx.tests.length := ⟨_, rfl⟩
    rw [← tz4] at tz2
    rw [← tz5] at tz3
    obtain ⟨⟨⟨⟨fk, fn, fs⟩, fm, fa⟩, fv⟩, fb, fbv, ft, ftv⟩ := bx
    simp only at tz1 tz2 tz3
    subst tz1 tz2 tz3
    clear tz4 tz5
    have HF : Hid (Cm.ok V2 ⟨(⟨⟨fk, fn, fs⟩, fm, fa⟩, .slice f1 f2 f3), fb, .slice f4 f5 f6, ft, .slice f7 f8 f9⟩ ∧ Cm.key ⟨(⟨⟨fk, fn, fs⟩, fm, fa⟩, .slice f1 f2 f3), fb, .slice f4 f5 f6, ft, .slice f7 f8 f9⟩ = barK U KA) := ⟨hbo, hbk⟩
    refine hK.out _ _ (below_step hH hb) (fun hH => ?_)
    clear hK K hb hbo hbk
    try simp only [Act.put, List.setIfInBounds_toArray, List.set_cons_zero, List.set_cons_succ]
    refine wpAnyH_ready (rs := [9]) (by kernel_rfl) (by simp) ?_
    refine (AllReadyH.cons (o := ⟨_, _, _, _, _, _⟩) rfl (fun K hK => ?_) AllReadyH.nil)
    go_simp
    refine (HBY.out _ hH).mono ?_
    rintro x V3 ⟨by3, rfl, hbk, hbo, hb⟩
    obtain ⟨⟨g1, g2, g3, tz1⟩, ⟨g4, g6, tz2⟩, ⟨g7, g9, tz3⟩, -, -⟩ := (hbo).shape
    obtain ⟨g5, tz4⟩ : ∃ n, n = by3.body.length := ⟨_, rfl⟩
    obtain ⟨g8, tz5⟩ : ∃ n, n = by3.tests.length := ⟨_, rfl⟩
    rw [← tz4] at tz2
    rw [← tz5] at tz3
    obtain ⟨⟨⟨⟨gk, gn, gs⟩, gm, ga⟩, gv⟩, gb, gbv, gt, gtv⟩ := by3
    simp only at tz1 tz2 tz3
    subst tz1 tz2 tz3
    clear tz4 tz5
    have HG : Hid (Cm.ok V3 ⟨(⟨⟨gk, gn, gs⟩, gm, ga⟩, .slice g1 g2 g3), gb, .slice g4 g5 g6, gt, .slice g7 g8 g9⟩ ∧ Cm.key ⟨(⟨⟨gk, gn, gs⟩, gm, ga⟩, .slice g1 g2 g3), gb, .slice g4 g5 g6, gt, .slice g7 g8 g9⟩ = barK U KB) := ⟨hbo, hbk⟩
    have HF3 : Hid (Cm.ok V3 ⟨(⟨⟨fk, fn, fs⟩, fm, fa⟩, .slice f1 f2 f3), fb, .slice f4 f5 f6, ft, .slice f7 f8 f9⟩ ∧ Cm.key ⟨(⟨⟨fk, fn, fs⟩, fm, fa⟩, .slice f1 f2 f3), fb, .slice f4 f5 f6, ft, .slice f7 f8 f9⟩ = barK U KA) := ⟨HF.out.1.later hb, HF.out.2⟩
    refine hK.out _ _ (below_step hH hb) (fun hH => ?_)
    clear hK K hb hbo hbk HF
    try simp only [Act.put, List.setIfInBounds_toArray, List.set_cons_zero, List.set_cons_succ]
    refine wpAnyH_ready (rs := [10]) (by kernel_rfl) (by simp) ?_
    refine (AllReadyH.cons (o := ⟨_, _, _, _, _, _⟩) rfl (fun K hK => ?_) AllReadyH.nil)
    go_simp
    refine (sameC_any ⟨(⟨⟨fk, fn, fs⟩, fm, fa⟩, .slice f1 f2 f3), fb, .slice f4 f5 f6, ft, .slice f7 f8 f9⟩ ⟨(⟨⟨gk, gn, gs⟩, gm, ga⟩, .slice g1 g2 g3), gb, .slice g4 g5 g6, gt, .slice g7 g8 g9⟩ _ HF3.out.1 HG.out.1).mono ?_
    have hsm : Cm.same ⟨(⟨⟨fk, fn, fs⟩, fm, fa⟩, .slice f1 f2 f3), fb, .slice f4 f5 f6, ft, .slice f7 f8 f9⟩ ⟨(⟨⟨gk, gn, gs⟩, gm, ga⟩, .slice g1 g2 g3), gb, .slice g4 g5 g6, gt, .slice g7 g8 g9⟩ = SS := by rw [same_key, HF3.out.2, HG.out.2]; exact HSS.out
    rw [hsm]
    clear hsm
    rintro x V4 ⟨rfl, hb⟩
    refine hK.out _ _ (below_step hH hb) (fun hH => ?_)
    clear hK K hb
    try simp only [Act.put, List.setIfInBounds_toArray, List.set_cons_zero, List.set_cons_succ]
    refine wpAnyH_take (i := 11) (oi := ⟨_, _, _, _, _, _⟩) (v := .bool false) rfl (by kernel_rfl) (by kernel_rfl) (by kernel_rfl) (fun _ _ _ h => h) (Or.inl ⟨by rfl, fun w' h => by clear h; go_simp; exact HNQ.out⟩) hH ?_
    simp only [Act.put, List.setIfInBounds_toArray, List.set_cons_zero, List.set_cons_succ]
    refine wpAnyH_done (by kernel_rfl) ?_ _
    go_wp2_with fail
    go_meet
    case rel => exact ⟨rfl, hH⟩
  case rest =>
  obtain ⟨rfl, hb⟩ := hcut
  rename World => w8
  obtain ⟨DD, hDD⟩ : ∃ C, cmpC (quoK U KA) (quoK V KA) = C := ⟨_, rfl⟩
  have HCR : Hid (∀ X : World, Below w8.heap.size w8 X → Calls Try.prog 8 #[Cm.v ⟨(⟨⟨pk, pn, ps⟩, pm, pa⟩, .slice p1 p2 p3), pb, .slice p4 p5 p6, pt, .slice p7 p8 p9⟩, Cm.v ⟨(⟨⟨rk, rn, rs⟩, rm, ra⟩, .slice r1 r2 r3), rb, .slice r4 r5 r6, rt, .slice r7 r8 r9⟩] X fun e w' => e = .returned (.int .i64 DD) ∧ Below X.heap.size X w') := fun X hX => by
    have := compareC_any ⟨(⟨⟨pk, pn, ps⟩, pm, pa⟩, .slice p1 p2 p3), pb, .slice p4 p5 p6, pt, .slice p7 p8 p9⟩ ⟨(⟨⟨rk, rn, rs⟩, rm, ra⟩, .slice r1 r2 r3), rb, .slice r4 r5 r6, rt, .slice r7 r8 r9⟩ X ((HP.out.later hb).later hX).o ((HR.out.later hb).later hX).o
    rw [cmp_key, HPK.out, HRK.out, hDD] at this; exact this
  have HUV : Hid ((DD = 0) ↔ (U = V)) := by
    show _ ↔ _
    rw [← hDD, ← two_quotes (x := KA)]
    exact ⟨ord_c.zero _ _, fun e => by rw [e]; exact ord_c.refl _⟩
  have HW8 : Hid (Below w.heap.size w w8) := below_step HW.out hb
  obtain ⟨c0, c1, c2, c3, c4, c5, c6⟩ := cseven (HP.out.later hb).b
  obtain ⟨e0, e1, e2, e3, e4, e5, e6⟩ := cseven (HR.out.later hb).b
  clear hDD hb HCM HBX HBY HP HQ HR HX HY HW
  go_wp2_with (go_at_call 8; refine (HCR.out _ (Below.refl _ _)).mono ?_; clear HCR; rintro x w9 ⟨rfl, hb⟩; have HW9 : Hid (Below w.heap.size w w9) := below_step HW8.out hb; clear hb)
  go_ret
  refine ⟨ret_b ?_, HW9.out⟩
  have huv := HUV.out
  by_cases e : U = V
  · have e0 := huv.2 e
    subst e e0
    simp
  · have e0 : ¬ DD = 0 := fun x => e (huv.1 x)
    have e1 : ¬ U.toList = V.toList := fun x => e (toList_inj x)
    have q0 : (DD == 0) = false := beq_eq_false_iff_ne.2 e0
    have q1 : (U.toList == V.toList) = false := beq_eq_false_iff_ne.2 e1
    rw [q0, q1]; rfl
end Go.Proofs.Ytaiblofbdfbjcab
