/-
  broken. (Written by RF3.py.)
-/
import Derived.Test.YtaiblofbdfbjcaaRF2
namespace Go.Proofs.Ytaiblofbdfbjcaa
open Go.RowKit
attribute [local go_sem ↓] Go.wp_at_zero Go.wp_at_succ

theorem and_rng (x : Int) : 0 ≤ bits .and .i64 x 1023 ∧ bits .and .i64 x 1023 ≤ 1023 := by
  have h2 : (BitVec.ofInt 64 (1023 : Int)).toNat = 1023 := by decide
  have e : bits .and .i64 x 1023 = IntKind.i64.wrap (((BitVec.ofInt 64 x &&& BitVec.ofInt 64 (1023 : Int)).toNat : Nat) : Int) := rfl
  rw [e, BitVec.toNat_and, h2]
  have h3 : (BitVec.ofInt 64 x).toNat &&& 1023 ≤ 1023 := Nat.and_le_right
  rw [wrapS (by omega)]
  omega
set_option maxRecDepth 20000 in
set_option maxHeartbeats 2000000 in
theorem broken_any (raw : Cm) (bk bat : Int) (w : World) (h : raw.ok w) :
    Calls Try.prog 8 #[raw.v, .agg #[.int .i64 bk, .int .i64 bat]] w fun e w' => ∃ (d : Cm) (r : Int), e = .returned (.tuple #[d.v, .int .i64 r]) ∧ d.ok w' ∧ d.wf ∧ d.chk = r ∧ Below w.heap.size w w' := by
  obtain ⟨⟨a, hn, cap, h1⟩, ⟨a', cap', h2⟩, ⟨a'', cap'', h3⟩, hbl, htl⟩ := h.shape
  have HMD : Hid (∀ X : World, Below w.heap.size w X → Calls Try.prog 10 #[raw.v] X fun e w' => ∃ d : Cm, e = .returned d.v ∧ d.key = madeK raw.key ∧ MCl X.heap.size w' d ∧ Below X.heap.size X w') := fun X hX => made_any raw X (h.later hX)
  have hval := made_val nmP_ok raw.key
  have hmis : mis 0 (vrs (Ck.terms (madeK raw.key))) = false := norm_mis _
  generalize madeK raw.key = KK at HMD hval hmis
  have hks := hval.ks
  obtain ⟨m, hd, hvn'⟩ := num_vars hmis
  have hm72 := num_le hval hd
  have hvn : ∀ t ∈ Ck.terms KK, t.var = true → t.n < 73 := fun t ht hv => by have := hvn' t ht hv; omega
  clear hd hvn' hm72
  have HB3 : Hid (Below w.heap.size w (((w.alloc (.cells raw.cs 30)).alloc (.cells #[.int .i64 bk, .int .i64 bat] 32)).alloc (.cells zcs 30))) := below_step (below2 _ _ _) (below1 _ _)
  have HR0 : Hid (CBlk (((w.alloc (.cells raw.cs 30)).alloc (.cells #[.int .i64 bk, .int .i64 bat] 32)).alloc (.cells zcs 30)) (w.heap.size + 1 + 1) zcs 30) := by
    have := CBlk.new ((w.alloc (.cells raw.cs 30)).alloc (.cells #[.int .i64 bk, .int .i64 bat] 32)) zcs 30
    rwa [show ((w.alloc (.cells raw.cs 30)).alloc (.cells #[.int .i64 bk, .int .i64 bat] 32)).heap.size = w.heap.size + 1 + 1 by simp] at this
  have HK0 : Hid (CBlk (((w.alloc (.cells raw.cs 30)).alloc (.cells #[.int .i64 bk, .int .i64 bat] 32)).alloc (.cells zcs 30)) (w.heap.size + 1) #[.int .i64 bk, .int .i64 bat] 32) := by
    have := (CBlk.new (w.alloc (.cells raw.cs 30)) #[.int .i64 bk, .int .i64 bat] 32).later (below1 _ (.cells zcs 30))
    rwa [show (w.alloc (.cells raw.cs 30)).heap.size = w.heap.size + 1 by simp] at this
  have HS0 : Hid ((((w.alloc (.cells raw.cs 30)).alloc (.cells #[.int .i64 bk, .int .i64 bat] 32)).alloc (.cells zcs 30)).heap.size = w.heap.size + 3) := by show _ = _; simp
  obtain ⟨⟨⟨⟨k, m', s⟩, nm, ls⟩, hx⟩, body, bv, tests, tv⟩ := raw
  simp only at h1 h2 h3 hbl htl
  subst h1 h2 h3
  clear h
  go_enter Try.func8, Try.ntmps8
  go_upto_region 2 with (go_at_call 10; refine (HMD.out _ HB3.out).mono ?_; clear HMD; rintro e w1 ⟨d, rfl, hdk, hmc, hb⟩; have hok := hmc.ok8 (by rw [hdk]; exact hks); obtain ⟨⟨d1, d2, d3, tz1⟩, ⟨d4, d6, tz2⟩, ⟨d7, d9, tz3⟩, -, -⟩ := (hok).shape; obtain ⟨d5, tz4⟩ : ∃ n, n = d.body.length := ⟨_, rfl⟩; obtain ⟨d8, tz5⟩ : ∃ n, n = d.tests.length := ⟨_, rfl⟩; rw [← tz4] at tz2; rw [← tz5] at tz3; obtain ⟨⟨⟨⟨dk, dn, ds⟩, dm, da⟩, dv⟩, db, dbv, dt, dtv⟩ := d; simp only at tz1 tz2 tz3; subst tz1 tz2 tz3; clear tz4 tz5; have HDK : Hid (Cm.key ⟨(⟨⟨dk, dn, ds⟩, dm, da⟩, .slice d1 d2 d3), db, .slice d4 d5 d6, dt, .slice d7 d8 d9⟩ = KK) := hdk; have HBS : Hid (BS w (w1.alloc (.cells (Cm.cs ⟨(⟨⟨dk, dn, ds⟩, dm, da⟩, .slice d1 d2 d3), db, .slice d4 d5 d6, dt, .slice d7 d8 d9⟩) 30)) w1.heap.size (⟨⟨dk, dn, ds⟩, dm, da⟩, .slice d1 d2 d3) db (.slice d4 d5 d6) dt (.slice d7 d8 d9)) := BS.start (hmc.mono (Nat.le_of_eq HS0.out.symm)) (HR0.out.later hb) (below_step HB3.out hb) (by have := hb.size; have := HS0.out; omega); have HKB : Hid (CBlk (w1.alloc (.cells (Cm.cs ⟨(⟨⟨dk, dn, ds⟩, dm, da⟩, .slice d1 d2 d3), db, .slice d4 d5 d6, dt, .slice d7 d8 d9⟩) 30)) (w.heap.size + 1) #[.int .i64 bk, .int .i64 bat] 32) := (HK0.out.later hb).later (below1 _ _); clear hb hok hmc hdk)
  revert HBS HKB
  generalize w1.alloc (.cells #[.int .i64 dk, .int .i64 dn, .string ds, .string dm, .slice d1 d2 d3, .slice d4 d5 d6, .slice d7 d8 d9] 30) = X1
  generalize w1.heap.size = Go
  intro HBS HKB
  have hln := KS.lens (c := ⟨(⟨⟨dk, dn, ds⟩, dm, da⟩, .slice d1 d2 d3), db, .slice d4 d5 d6, dt, .slice d7 d8 d9⟩) (by rw [HDK.out]; exact hks)
  simp only at hln
  have k0 : X1.cell? ⟨w.heap.size + 1, 0, none⟩ = some (.int .i64 bk) := cell_of_row _ _ _ _ _ _ HKB.out
  have k1 : X1.cell? ⟨w.heap.size + 1, 1, none⟩ = some (.int .i64 bat) := cell_of_row _ _ _ _ _ _ HKB.out
  go_upto_region 3 with fail
  generalize bk.tmod 7 = kk
  rcases (show kk = 1 ∨ kk = 2 ∨ kk = 3 ∨ kk = 4 ∨ kk = 5 ∨ kk = 6 ∨ (kk ≠ 1 ∧ kk ≠ 2 ∧ kk ≠ 3 ∧ kk ≠ 4 ∧ kk ≠ 5 ∧ kk ≠ 6) by omega) with rfl | rfl | rfl | rfl | rfl | rfl | hno
  · go_wp2_with fail
    go_loopg [] (9 - db.length) (fun g wr => ∃ (bu : Value) (LB : List (At × Value)), LB.length + g = 9 ∧ (∀ y ∈ LB, y ∈ db ∨ y = (⟨⟨0, 0, ⟨#[]⟩⟩, ⟨#[112]⟩, []⟩, .slice none 0 0)) ∧ BS w wr Go (⟨⟨dk, dn, ds⟩, dm, da⟩, .slice d1 d2 d3) LB bu dt (.slice d7 d8 d9))
    case atStart => exact ⟨.slice d4 d5 d6, db, by have := hln.2.1; omega, fun y hy => Or.inl hy, HBS.out⟩
    case round =>
      obtain ⟨bu, LB, hj, hmem, hbs⟩ := hrel
      have HMEM : Hid (∀ y ∈ LB, y ∈ db ∨ y = (⟨⟨0, 0, ⟨#[]⟩⟩, ⟨#[112]⟩, []⟩, .slice none 0 0)) := hmem
      have HB : Hid (BS w wr Go (⟨⟨dk, dn, ds⟩, dm, da⟩, .slice d1 d2 d3) LB bu dt (.slice d7 d8 d9)) := hbs
      clear hbs hmem HBS
      obtain ⟨ba, bc, hbu⟩ := OwnA.form HB.out.mc.b
      simp only at hbu
      subst hbu
      obtain ⟨BN, hBN⟩ : ∃ n, LB.length = n := ⟨_, rfl⟩
      rw [hBN] at hj HB
      have HBN : Hid (LB.length = BN) := hBN
      clear hBN
      obtain ⟨c0, c1, c2, c3, c4, c5, c6⟩ := cseven HB.out.bo
      simp only at c0 c1 c2 c3 c4 c5 c6
      cases gk with
      | succ g =>
        have hle : (BN : Int) ≤ 8 := by omega
        have HU : Hid (BS w (wr.alloc (.cells #[.int .i64 0, .int .i64 0, .string ⟨#[]⟩, .string ⟨#[112]⟩, .slice none 0 0] 26)) Go (⟨⟨dk, dn, ds⟩, dm, da⟩, .slice d1 d2 d3) LB (.slice ba BN bc) dt (.slice d7 d8 d9)) := HB.out.later (below1 _ _)
        have HNB : Hid (CBlk (wr.alloc (.cells #[.int .i64 0, .int .i64 0, .string ⟨#[]⟩, .string ⟨#[112]⟩, .slice none 0 0] 26)) wr.heap.size #[.int .i64 0, .int .i64 0, .string ⟨#[]⟩, .string ⟨#[112]⟩, .slice none 0 0] 26) := CBlk.new _ _ _
        have hsz : w.heap.size + 3 ≤ (wr.alloc (.cells #[.int .i64 0, .int .i64 0, .string ⟨#[]⟩, .string ⟨#[112]⟩, .slice none 0 0] 26)).heap.size := by have h1 := HU.out.bo.lt; have h2 := HU.out.g1; omega
        go_wp2_with (at_builtin; refine aapp_one rfl _ _ rfl (w.heap.size + 3) (.slice ba BN bc) LB (by rfl) HU.out.mc.b wr.heap.size (⟨⟨0, 0, ⟨#[]⟩⟩, ⟨#[112]⟩, []⟩, .slice none 0 0) (by rfl) HNB.out (acell_one _ _ _ _) (by have := HBN.out; omega) hsz ?_; intro v' w3 hown hb3 hg3 ha3; obtain ⟨va, vc, rfl⟩ := OwnA.form hown; generalize (LB ++ [((⟨⟨0, 0, ⟨#[]⟩⟩, ⟨#[112]⟩, []⟩, .slice none 0 0) : At × Value)]).length = VN at hown ha3 ⊢; have hD : CBlk w3 Go _ 30 := (hg3.block Go HU.out.bo.lt (fun e => HU.out.fr.b Go e.symm rfl)).trans HU.out.bo; have HB2 : Hid (BS w (w3.setCell ⟨Go, 5, none⟩ (.slice va VN vc)) Go (⟨⟨dk, dn, ds⟩, dm, da⟩, .slice d1 d2 d3) (LB ++ [(⟨⟨0, 0, ⟨#[]⟩⟩, ⟨#[112]⟩, []⟩, .slice none 0 0)]) (.slice va VN vc) dt (.slice d7 d8 d9)) := HU.out.body (row := Value.ownBlock (.slice ba BN bc)) hown (fun y hy => by rcases List.mem_append.1 hy with hy | hy; exact HU.out.mc.x y hy; rw [List.mem_singleton] at hy; subst hy; exact ownT_nil _ _) hb3 hg3 (fun k hk => ⟨(HU.out.mc.s k hk).1, fun y hy => by rcases List.mem_append.1 hy with hy | hy; exact (HU.out.mc.s k hk).2.1 y hy; rw [List.mem_singleton] at hy; subst hy; simp [Value.ownBlock], (HU.out.mc.s k hk).2.2, HU.out.fr.b k hk⟩) ha3 (fun y hy => by rcases List.mem_append.1 hy with hy | hy; exact HU.out.fr.x y hy; rw [List.mem_singleton] at hy; subst hy; intro k hk; simp [Value.ownBlock] at hk); clear c0 c1 c2 c3 c4 c5 c6; obtain ⟨c0, c1, c2, c3, c4, c5, c6⟩ := cseven hD; have f5 : w3.frozen? ⟨Go, 5, none⟩ = false := hD.froz; clear hD hown hb3 hg3 ha3 HU HNB)
        go_roundg g
        case measure => omega
        case rel => exact ⟨_, LB ++ [(⟨⟨0, 0, ⟨#[]⟩⟩, ⟨#[112]⟩, []⟩, .slice none 0 0)], by rw [List.length_append]; have := HBN.out; simp; omega, fun y hy => by rcases List.mem_append.1 hy with hy | hy; exact HMEM.out y hy; rw [List.mem_singleton] at hy; exact Or.inr hy, HB2.out⟩
      | zero =>
        obtain rfl : BN = 9 := by omega
        clear c0 c1 c2 c3 c4 c5 c6
        obtain ⟨c0, c1, c2, c3, c4, c5, c6⟩ := cseven HB.out.bo
        simp only at c0 c1 c2 c3 c4 c5 c6
        obtain ⟨r0, r1, r2, r3, r4, r5, r6⟩ := cseven HB.out.br
        have g0 : wr.frozen? ⟨w.heap.size + 1 + 1, 0, none⟩ = false := HB.out.br.froz
        have g1 : wr.frozen? ⟨w.heap.size + 1 + 1, 1, none⟩ = false := HB.out.br.froz
        have g2 : wr.frozen? ⟨w.heap.size + 1 + 1, 2, none⟩ = false := HB.out.br.froz
        have g3 : wr.frozen? ⟨w.heap.size + 1 + 1, 3, none⟩ = false := HB.out.br.froz
        have g4 : wr.frozen? ⟨w.heap.size + 1 + 1, 4, none⟩ = false := HB.out.br.froz
        have g5 : wr.frozen? ⟨w.heap.size + 1 + 1, 5, none⟩ = false := HB.out.br.froz
        have g6 : wr.frozen? ⟨w.heap.size + 1 + 1, 6, none⟩ = false := HB.out.br.froz
        have n3 : w.heap.size + 1 + 1 < w.heap.size + 3 := by omega
        have n4 : w.heap.size ≤ w.heap.size + 1 + 1 := by omega
        go_wp2
        refine bodyPost_ret (v := .tuple #[Cm.v ⟨(⟨⟨dk, dn, ds⟩, dm, da⟩, .slice d1 d2 d3), LB, .slice ba 9 bc, dt, .slice d7 d8 d9⟩, .int .i64 31]) (by simp [results, Try.results8, go_sem, r0, r1, r2, r3, r4, r5, r6]) rfl ⟨⟨(⟨⟨dk, dn, ds⟩, dm, da⟩, .slice d1 d2 d3), LB, .slice ba 9 bc, dt, .slice d7 d8 d9⟩, 31, rfl, ?_, ?_, ?_, ?_⟩
        · exact (((((((HB.out.mc.set n3 _).set n3 _).set n3 _).set n3 _).set n3 _).set n3 _).set n3 _).ok (by have := hln.1; show da.length < _; omega) (by have := HBN.out; show LB.length < _; omega) (fun y hy => by rcases HMEM.out y hy with h | h; have := hln.2.2.2 y h; omega; rw [h]; simp) (by have := hln.2.2.1; show dt.length < _; omega)
        · exact wf_of (fun t ht hv => by
          have ht' : t ∈ (Cm.key ⟨(⟨⟨dk, dn, ds⟩, dm, da⟩, .slice d1 d2 d3), db, .slice d4 d5 d6, dt, .slice d7 d8 d9⟩).1.pl ++ ((fsts LB).flatMap At.pl ++ tls (Cm.key ⟨(⟨⟨dk, dn, ds⟩, dm, da⟩, .slice d1 d2 d3), db, .slice d4 d5 d6, dt, .slice d7 d8 d9⟩).2.2) := ht
          rcases List.mem_append.1 ht' with h1 | h1
          · have := hvn t (by rw [← HDK.out]; unfold Ck.terms; exact List.mem_append_left _ h1) hv; omega
          · rcases List.mem_append.1 h1 with h1 | h1
            · obtain ⟨aa, haa, hta⟩ := List.mem_flatMap.1 h1
              obtain ⟨y, hy, rfl⟩ := List.mem_map.1 haa
              rcases HMEM.out y hy with h2 | h2
              · have := hvn t (by rw [← HDK.out]; unfold Ck.terms; exact List.mem_append_right _ (List.mem_append_left _ (List.mem_flatMap.2 ⟨y.1, List.mem_map.2 ⟨y, h2, rfl⟩, hta⟩))) hv; omega
              · rw [h2] at hta; simp [At.pl] at hta; subst hta; simp [Tm.var] at hv
            · have := hvn t (by rw [← HDK.out]; unfold Ck.terms; exact List.mem_append_right _ (List.mem_append_right _ h1)) hv; omega) (by
          have h1 := flat_len9 (fsts LB) (fun aa haa => by
            obtain ⟨y, hy, rfl⟩ := List.mem_map.1 haa
            rcases HMEM.out y hy with h2 | h2
            · have := hln.2.2.2 y h2; simp [At.pl]; omega
            · rw [h2]; simp [At.pl])
          have h2 : (fsts LB).length = 9 := by have := HBN.out; simp [fsts]; omega
          have e : Ck.terms (Cm.key ⟨(⟨⟨dk, dn, ds⟩, dm, da⟩, .slice d1 d2 d3), LB, .slice ba 9 bc, dt, .slice d7 d8 d9⟩) = (At.pl ⟨⟨dk, dn, ds⟩, dm, da⟩) ++ ((fsts LB).flatMap At.pl ++ tls dt) := rfl
          rw [e]
          have h3 := hln.1
          have h4 := hln.2.2.1
          simp only [List.length_append, tls_len, At.pl, List.length_cons] at h1 ⊢
          omega)
        · exact chk_long (by have := HBN.out; show 8 < (fsts LB).length; simp [fsts]; omega)
        · exact ((((((HB.out.bw.setCell n4 _).setCell n4 _).setCell n4 _).setCell n4 _).setCell n4 _).setCell n4 _).setCell n4 _
  · obtain ⟨c0, c1, c2, c3, c4, c5, c6⟩ := cseven HBS.out.bo
    simp only at c0 c1 c2 c3 c4 c5 c6
    have f3 : X1.frozen? ⟨Go, 3, none⟩ = false := HBS.out.bo.froz
    have HB2 : Hid (BS w (X1.setCell ⟨Go, 3, none⟩ (.string ⟨#[115, 97, 121, 115]⟩)) Go (⟨⟨dk, dn, ds⟩, ⟨#[115, 97, 121, 115]⟩, da⟩, .slice d1 d2 d3) db (.slice d4 d5 d6) dt (.slice d7 d8 d9)) := HBS.out.name saysN
    go_upto_region 10 with fail
    clear c0 c1 c2 c3 c4 c5 c6 f3
    revert HB2
    generalize (X1.setCell ⟨Go, 3, none⟩ (.string ⟨#[115, 97, 121, 115]⟩)) = X2
    intro HB2
    clear HBS
    obtain ⟨c0, c1, c2, c3, c4, c5, c6⟩ := cseven HB2.out.bo
    simp only at c0 c1 c2 c3 c4 c5 c6
    obtain ⟨r0, r1, r2, r3, r4, r5, r6⟩ := cseven HB2.out.br
    have g0 : X2.frozen? ⟨w.heap.size + 1 + 1, 0, none⟩ = false := HB2.out.br.froz
    have g1 : X2.frozen? ⟨w.heap.size + 1 + 1, 1, none⟩ = false := HB2.out.br.froz
    have g2 : X2.frozen? ⟨w.heap.size + 1 + 1, 2, none⟩ = false := HB2.out.br.froz
    have g3 : X2.frozen? ⟨w.heap.size + 1 + 1, 3, none⟩ = false := HB2.out.br.froz
    have g4 : X2.frozen? ⟨w.heap.size + 1 + 1, 4, none⟩ = false := HB2.out.br.froz
    have g5 : X2.frozen? ⟨w.heap.size + 1 + 1, 5, none⟩ = false := HB2.out.br.froz
    have g6 : X2.frozen? ⟨w.heap.size + 1 + 1, 6, none⟩ = false := HB2.out.br.froz
    have n3 : w.heap.size + 1 + 1 < w.heap.size + 3 := by omega
    have n4 : w.heap.size ≤ w.heap.size + 1 + 1 := by omega
    go_wp2
    refine bodyPost_ret (v := .tuple #[Cm.v ⟨(⟨⟨dk, dn, ds⟩, ⟨#[115, 97, 121, 115]⟩, da⟩, .slice d1 d2 d3), db, .slice d4 d5 d6, dt, .slice d7 d8 d9⟩, .int .i64 21]) (by simp [results, Try.results8, go_sem, r0, r1, r2, r3, r4, r5, r6]) rfl ⟨⟨(⟨⟨dk, dn, ds⟩, ⟨#[115, 97, 121, 115]⟩, da⟩, .slice d1 d2 d3), db, .slice d4 d5 d6, dt, .slice d7 d8 d9⟩, 21, rfl, ?_, ?_, ?_, ?_⟩
    · exact (((((((HB2.out.mc.set n3 _).set n3 _).set n3 _).set n3 _).set n3 _).set n3 _).set n3 _).ok (by have := hln.1; show da.length < _; omega) (by have := hln.2.1; show db.length < _; omega) (fun y hy => by have := hln.2.2.2 y hy; omega) (by have := hln.2.2.1; show dt.length < _; omega)
    · exact wf_of (fun t ht hv => by have := hvn t (by rw [← HDK.out]; exact ht) hv; omega) (by have := hks.len; rw [← HDK.out] at this; exact Nat.le_trans this (by omega))
    · exact br2 hval saysN_no (by rw [← HDK.out]; rfl)
    · exact ((((((HB2.out.bw.setCell n4 _).setCell n4 _).setCell n4 _).setCell n4 _).setCell n4 _).setCell n4 _).setCell n4 _
  · have c6 := cell_step (below1 X1 (.cells #[.int .i64 5, .int .i64 1, .int .i64 0, .string ⟨#[]⟩, .int .i64 1, .int .i64 0, .string ⟨#[]⟩] 53)) HBS.out.bo.lt (cseven HBS.out.bo).2.2.2.2.2.2
    have f6 : (X1.alloc (.cells #[.int .i64 5, .int .i64 1, .int .i64 0, .string ⟨#[]⟩, .int .i64 1, .int .i64 0, .string ⟨#[]⟩] 53)).frozen? ⟨Go, 6, none⟩ = false := (HBS.out.bo.later (below1 _ _)).froz
    have HB2 : Hid (BS w ((X1.alloc (.cells #[.int .i64 5, .int .i64 1, .int .i64 0, .string ⟨#[]⟩, .int .i64 1, .int .i64 0, .string ⟨#[]⟩] 53)).setCell ⟨Go, 6, none⟩ (.slice (some ⟨X1.heap.size, 0, none⟩) 1 1)) Go (⟨⟨dk, dn, ds⟩, dm, da⟩, .slice d1 d2 d3) db (.slice d4 d5 d6) [⟨5, num0, num0⟩] (.slice (some ⟨X1.heap.size, 0, none⟩) 1 1)) := HBS.out.test1 ⟨5, num0, num0⟩
    go_upto_region 13 with fail
    clear c6 f6
    revert HB2
    generalize ((X1.alloc (.cells #[.int .i64 5, .int .i64 1, .int .i64 0, .string ⟨#[]⟩, .int .i64 1, .int .i64 0, .string ⟨#[]⟩] 53)).setCell ⟨Go, 6, none⟩ (.slice (some ⟨X1.heap.size, 0, none⟩) 1 1)) = X2
    generalize X1.heap.size = TG
    intro HB2
    clear HBS
    obtain ⟨c0, c1, c2, c3, c4, c5, c6⟩ := cseven HB2.out.bo
    simp only at c0 c1 c2 c3 c4 c5 c6
    obtain ⟨r0, r1, r2, r3, r4, r5, r6⟩ := cseven HB2.out.br
    have g0 : X2.frozen? ⟨w.heap.size + 1 + 1, 0, none⟩ = false := HB2.out.br.froz
    have g1 : X2.frozen? ⟨w.heap.size + 1 + 1, 1, none⟩ = false := HB2.out.br.froz
    have g2 : X2.frozen? ⟨w.heap.size + 1 + 1, 2, none⟩ = false := HB2.out.br.froz
    have g3 : X2.frozen? ⟨w.heap.size + 1 + 1, 3, none⟩ = false := HB2.out.br.froz
    have g4 : X2.frozen? ⟨w.heap.size + 1 + 1, 4, none⟩ = false := HB2.out.br.froz
    have g5 : X2.frozen? ⟨w.heap.size + 1 + 1, 5, none⟩ = false := HB2.out.br.froz
    have g6 : X2.frozen? ⟨w.heap.size + 1 + 1, 6, none⟩ = false := HB2.out.br.froz
    have n3 : w.heap.size + 1 + 1 < w.heap.size + 3 := by omega
    have n4 : w.heap.size ≤ w.heap.size + 1 + 1 := by omega
    go_wp2
    refine bodyPost_ret (v := .tuple #[Cm.v ⟨(⟨⟨dk, dn, ds⟩, dm, da⟩, .slice d1 d2 d3), db, .slice d4 d5 d6, [⟨5, num0, num0⟩], .slice (some ⟨TG, 0, none⟩) 1 1⟩, .int .i64 32]) (by simp [results, Try.results8, go_sem, r0, r1, r2, r3, r4, r5, r6]) rfl ⟨⟨(⟨⟨dk, dn, ds⟩, dm, da⟩, .slice d1 d2 d3), db, .slice d4 d5 d6, [⟨5, num0, num0⟩], .slice (some ⟨TG, 0, none⟩) 1 1⟩, 32, rfl, ?_, ?_, ?_, ?_⟩
    · exact (((((((HB2.out.mc.set n3 _).set n3 _).set n3 _).set n3 _).set n3 _).set n3 _).set n3 _).ok (by have := hln.1; show da.length < _; omega) (by have := hln.2.1; show db.length < _; omega) (fun y hy => by have := hln.2.2.2 y hy; omega) (by simp)
    · exact wf_of (fun t ht hv => by
          have ht' : t ∈ (Cm.key ⟨(⟨⟨dk, dn, ds⟩, dm, da⟩, .slice d1 d2 d3), db, .slice d4 d5 d6, dt, .slice d7 d8 d9⟩).1.pl ++ ((Cm.key ⟨(⟨⟨dk, dn, ds⟩, dm, da⟩, .slice d1 d2 d3), db, .slice d4 d5 d6, dt, .slice d7 d8 d9⟩).2.1.flatMap At.pl ++ tls [⟨5, num0, num0⟩]) := ht
          rw [HDK.out] at ht'
          rcases List.mem_append.1 ht' with h1 | h1
          · have := hvn t (by unfold Ck.terms; exact List.mem_append_left _ h1) hv; omega
          · rcases List.mem_append.1 h1 with h1 | h1
            · have := hvn t (by unfold Ck.terms; exact List.mem_append_right _ (List.mem_append_left _ h1)) hv; omega
            · simp [tls, num0] at h1
              rcases h1 with rfl | rfl <;> simp) (by
          have h1 := hks.len
          rw [← HDK.out] at h1
          have e : Ck.terms (Cm.key ⟨(⟨⟨dk, dn, ds⟩, dm, da⟩, .slice d1 d2 d3), db, .slice d4 d5 d6, [⟨5, num0, num0⟩], .slice (some ⟨TG, 0, none⟩) 1 1⟩) = (Cm.key ⟨(⟨⟨dk, dn, ds⟩, dm, da⟩, .slice d1 d2 d3), db, .slice d4 d5 d6, dt, .slice d7 d8 d9⟩).1.pl ++ ((Cm.key ⟨(⟨⟨dk, dn, ds⟩, dm, da⟩, .slice d1 d2 d3), db, .slice d4 d5 d6, dt, .slice d7 d8 d9⟩).2.1.flatMap At.pl ++ tls [⟨5, num0, num0⟩]) := rfl
          rw [e]
          unfold Ck.terms at h1
          simp only [List.length_append, tls_len, List.length_cons, List.length_nil] at h1 ⊢
          omega)
    · exact br3 hval (by rw [← HDK.out]; rfl)
    · exact ((((((HB2.out.bw.setCell n4 _).setCell n4 _).setCell n4 _).setCell n4 _).setCell n4 _).setCell n4 _).setCell n4 _
  · obtain ⟨c0, c1, c2, c3, c4, c5, c6⟩ := cseven HBS.out.bo
    simp only at c0 c1 c2 c3 c4 c5 c6
    have f0 : X1.frozen? ⟨Go, 0, none⟩ = false := HBS.out.bo.froz
    have f1 : X1.frozen? ⟨Go, 1, none⟩ = false := HBS.out.bo.froz
    have f2 : X1.frozen? ⟨Go, 2, none⟩ = false := HBS.out.bo.froz
    obtain ⟨nn, hnn⟩ : ∃ n, bits .and .i64 bat 1023 = n := ⟨_, rfl⟩
    have HNN : Hid (0 ≤ nn ∧ nn ≤ 1023) := by rw [← hnn]; exact and_rng bat
    have HB2 : Hid (BS w (((X1.setCell ⟨Go, 0, none⟩ (.int .i64 3)).setCell ⟨Go, 1, none⟩ (.int .i64 nn)).setCell ⟨Go, 2, none⟩ (.string ⟨#[]⟩)) Go (⟨⟨3, nn, ⟨#[]⟩⟩, dm, da⟩, .slice d1 d2 d3) db (.slice d4 d5 d6) dt (.slice d7 d8 d9)) := HBS.out.by_ ⟨3, nn, ⟨#[]⟩⟩
    go_upto_region 16 with fail
    clear c0 c1 c2 c3 c4 c5 c6 f0 f1 f2
    revert HB2
    generalize (((X1.setCell ⟨Go, 0, none⟩ (.int .i64 3)).setCell ⟨Go, 1, none⟩ (.int .i64 nn)).setCell ⟨Go, 2, none⟩ (.string ⟨#[]⟩)) = X2
    intro HB2
    clear HBS hnn
    obtain ⟨c0, c1, c2, c3, c4, c5, c6⟩ := cseven HB2.out.bo
    simp only at c0 c1 c2 c3 c4 c5 c6
    obtain ⟨r0, r1, r2, r3, r4, r5, r6⟩ := cseven HB2.out.br
    have g0 : X2.frozen? ⟨w.heap.size + 1 + 1, 0, none⟩ = false := HB2.out.br.froz
    have g1 : X2.frozen? ⟨w.heap.size + 1 + 1, 1, none⟩ = false := HB2.out.br.froz
    have g2 : X2.frozen? ⟨w.heap.size + 1 + 1, 2, none⟩ = false := HB2.out.br.froz
    have g3 : X2.frozen? ⟨w.heap.size + 1 + 1, 3, none⟩ = false := HB2.out.br.froz
    have g4 : X2.frozen? ⟨w.heap.size + 1 + 1, 4, none⟩ = false := HB2.out.br.froz
    have g5 : X2.frozen? ⟨w.heap.size + 1 + 1, 5, none⟩ = false := HB2.out.br.froz
    have g6 : X2.frozen? ⟨w.heap.size + 1 + 1, 6, none⟩ = false := HB2.out.br.froz
    have n3 : w.heap.size + 1 + 1 < w.heap.size + 3 := by omega
    have n4 : w.heap.size ≤ w.heap.size + 1 + 1 := by omega
    go_wp2
    refine bodyPost_ret (v := .tuple #[Cm.v ⟨(⟨⟨3, nn, ⟨#[]⟩⟩, dm, da⟩, .slice d1 d2 d3), db, .slice d4 d5 d6, dt, .slice d7 d8 d9⟩, .int .i64 33]) (by simp [results, Try.results8, go_sem, r0, r1, r2, r3, r4, r5, r6]) rfl ⟨⟨(⟨⟨3, nn, ⟨#[]⟩⟩, dm, da⟩, .slice d1 d2 d3), db, .slice d4 d5 d6, dt, .slice d7 d8 d9⟩, 33, rfl, ?_, ?_, ?_, ?_⟩
    · exact (((((((HB2.out.mc.set n3 _).set n3 _).set n3 _).set n3 _).set n3 _).set n3 _).set n3 _).ok (by have := hln.1; show da.length < _; omega) (by have := hln.2.1; show db.length < _; omega) (fun y hy => by have := hln.2.2.2 y hy; omega) (by have := hln.2.2.1; show dt.length < _; omega)
    · exact wf_of (fun t ht hv => by
          have ht' : t ∈ (⟨3, nn, ⟨#[]⟩⟩ :: da) ++ ((Cm.key ⟨(⟨⟨dk, dn, ds⟩, dm, da⟩, .slice d1 d2 d3), db, .slice d4 d5 d6, dt, .slice d7 d8 d9⟩).2.1.flatMap At.pl ++ tls (Cm.key ⟨(⟨⟨dk, dn, ds⟩, dm, da⟩, .slice d1 d2 d3), db, .slice d4 d5 d6, dt, .slice d7 d8 d9⟩).2.2) := ht
          rcases List.mem_append.1 ht' with h1 | h1
          · rcases List.mem_cons.1 h1 with rfl | h1
            · show nn < _; have := HNN.out.2; omega
            · have := hvn t (by rw [← HDK.out]; unfold Ck.terms; exact List.mem_append_left _ (List.mem_cons_of_mem _ h1)) hv; omega
          · have := hvn t (by rw [← HDK.out]; unfold Ck.terms; exact List.mem_append_right _ h1) hv; omega) (by
          have h1 := hks.len
          rw [← HDK.out] at h1
          exact Nat.le_trans (Nat.le_of_eq (by unfold Ck.terms; simp [Cm.key, At.pl])) (Nat.le_trans h1 (by omega)))
    · exact br4 hval HNN.out.1 (by rw [← HDK.out]; rfl)
    · exact ((((((HB2.out.bw.setCell n4 _).setCell n4 _).setCell n4 _).setCell n4 _).setCell n4 _).setCell n4 _).setCell n4 _
  · have c6 := cell_step (below1 X1 (.cells #[.int .i64 1, .int .i64 3, .int .i64 100, .string ⟨#[]⟩, .int .i64 1, .int .i64 0, .string ⟨#[]⟩] 53)) HBS.out.bo.lt (cseven HBS.out.bo).2.2.2.2.2.2
    have f6 : (X1.alloc (.cells #[.int .i64 1, .int .i64 3, .int .i64 100, .string ⟨#[]⟩, .int .i64 1, .int .i64 0, .string ⟨#[]⟩] 53)).frozen? ⟨Go, 6, none⟩ = false := (HBS.out.bo.later (below1 _ _)).froz
    have HB2 : Hid (BS w ((X1.alloc (.cells #[.int .i64 1, .int .i64 3, .int .i64 100, .string ⟨#[]⟩, .int .i64 1, .int .i64 0, .string ⟨#[]⟩] 53)).setCell ⟨Go, 6, none⟩ (.slice (some ⟨X1.heap.size, 0, none⟩) 1 1)) Go (⟨⟨dk, dn, ds⟩, dm, da⟩, .slice d1 d2 d3) db (.slice d4 d5 d6) [⟨1, ⟨3, 100, ⟨#[]⟩⟩, num0⟩] (.slice (some ⟨X1.heap.size, 0, none⟩) 1 1)) := HBS.out.test1 ⟨1, ⟨3, 100, ⟨#[]⟩⟩, num0⟩
    go_upto_region 19 with fail
    clear c6 f6
    revert HB2
    generalize ((X1.alloc (.cells #[.int .i64 1, .int .i64 3, .int .i64 100, .string ⟨#[]⟩, .int .i64 1, .int .i64 0, .string ⟨#[]⟩] 53)).setCell ⟨Go, 6, none⟩ (.slice (some ⟨X1.heap.size, 0, none⟩) 1 1)) = X2
    generalize X1.heap.size = TG
    intro HB2
    clear HBS
    obtain ⟨c0, c1, c2, c3, c4, c5, c6⟩ := cseven HB2.out.bo
    simp only at c0 c1 c2 c3 c4 c5 c6
    obtain ⟨r0, r1, r2, r3, r4, r5, r6⟩ := cseven HB2.out.br
    have g0 : X2.frozen? ⟨w.heap.size + 1 + 1, 0, none⟩ = false := HB2.out.br.froz
    have g1 : X2.frozen? ⟨w.heap.size + 1 + 1, 1, none⟩ = false := HB2.out.br.froz
    have g2 : X2.frozen? ⟨w.heap.size + 1 + 1, 2, none⟩ = false := HB2.out.br.froz
    have g3 : X2.frozen? ⟨w.heap.size + 1 + 1, 3, none⟩ = false := HB2.out.br.froz
    have g4 : X2.frozen? ⟨w.heap.size + 1 + 1, 4, none⟩ = false := HB2.out.br.froz
    have g5 : X2.frozen? ⟨w.heap.size + 1 + 1, 5, none⟩ = false := HB2.out.br.froz
    have g6 : X2.frozen? ⟨w.heap.size + 1 + 1, 6, none⟩ = false := HB2.out.br.froz
    have n3 : w.heap.size + 1 + 1 < w.heap.size + 3 := by omega
    have n4 : w.heap.size ≤ w.heap.size + 1 + 1 := by omega
    go_wp2
    refine bodyPost_ret (v := .tuple #[Cm.v ⟨(⟨⟨dk, dn, ds⟩, dm, da⟩, .slice d1 d2 d3), db, .slice d4 d5 d6, [⟨1, ⟨3, 100, ⟨#[]⟩⟩, num0⟩], .slice (some ⟨TG, 0, none⟩) 1 1⟩, .int .i64 34]) (by simp [results, Try.results8, go_sem, r0, r1, r2, r3, r4, r5, r6]) rfl ⟨⟨(⟨⟨dk, dn, ds⟩, dm, da⟩, .slice d1 d2 d3), db, .slice d4 d5 d6, [⟨1, ⟨3, 100, ⟨#[]⟩⟩, num0⟩], .slice (some ⟨TG, 0, none⟩) 1 1⟩, 34, rfl, ?_, ?_, ?_, ?_⟩
    · exact (((((((HB2.out.mc.set n3 _).set n3 _).set n3 _).set n3 _).set n3 _).set n3 _).set n3 _).ok (by have := hln.1; show da.length < _; omega) (by have := hln.2.1; show db.length < _; omega) (fun y hy => by have := hln.2.2.2 y hy; omega) (by simp)
    · exact wf_of (fun t ht hv => by
          have ht' : t ∈ (Cm.key ⟨(⟨⟨dk, dn, ds⟩, dm, da⟩, .slice d1 d2 d3), db, .slice d4 d5 d6, dt, .slice d7 d8 d9⟩).1.pl ++ ((Cm.key ⟨(⟨⟨dk, dn, ds⟩, dm, da⟩, .slice d1 d2 d3), db, .slice d4 d5 d6, dt, .slice d7 d8 d9⟩).2.1.flatMap At.pl ++ tls [⟨1, ⟨3, 100, ⟨#[]⟩⟩, num0⟩]) := ht
          rw [HDK.out] at ht'
          rcases List.mem_append.1 ht' with h1 | h1
          · have := hvn t (by unfold Ck.terms; exact List.mem_append_left _ h1) hv; omega
          · rcases List.mem_append.1 h1 with h1 | h1
            · have := hvn t (by unfold Ck.terms; exact List.mem_append_right _ (List.mem_append_left _ h1)) hv; omega
            · simp [tls, num0] at h1
              rcases h1 with rfl | rfl <;> simp) (by
          have h1 := hks.len
          rw [← HDK.out] at h1
          have e : Ck.terms (Cm.key ⟨(⟨⟨dk, dn, ds⟩, dm, da⟩, .slice d1 d2 d3), db, .slice d4 d5 d6, [⟨1, ⟨3, 100, ⟨#[]⟩⟩, num0⟩], .slice (some ⟨TG, 0, none⟩) 1 1⟩) = (Cm.key ⟨(⟨⟨dk, dn, ds⟩, dm, da⟩, .slice d1 d2 d3), db, .slice d4 d5 d6, dt, .slice d7 d8 d9⟩).1.pl ++ ((Cm.key ⟨(⟨⟨dk, dn, ds⟩, dm, da⟩, .slice d1 d2 d3), db, .slice d4 d5 d6, dt, .slice d7 d8 d9⟩).2.1.flatMap At.pl ++ tls [⟨1, ⟨3, 100, ⟨#[]⟩⟩, num0⟩]) := rfl
          rw [e]
          unfold Ck.terms at h1
          simp only [List.length_append, tls_len, List.length_cons, List.length_nil] at h1 ⊢
          omega)
    · exact br5 hval hvn (by rw [← HDK.out]; rfl)
    · exact ((((((HB2.out.bw.setCell n4 _).setCell n4 _).setCell n4 _).setCell n4 _).setCell n4 _).setCell n4 _).setCell n4 _
  · have HU : Hid (BS w ((X1.alloc (.cells #[.int .i64 3, .int .i64 2000, .string ⟨#[]⟩] 23)).alloc (.cells #[.int .i64 0, .int .i64 0, .string ⟨#[]⟩, .string ⟨#[112]⟩, .slice (some ⟨X1.heap.size, 0, none⟩) 1 1] 26)) Go (⟨⟨dk, dn, ds⟩, dm, da⟩, .slice d1 d2 d3) db (.slice d4 d5 d6) dt (.slice d7 d8 d9)) := HBS.out.later (below2 _ _ _)
    have hA : CBlk ((X1.alloc (.cells #[.int .i64 3, .int .i64 2000, .string ⟨#[]⟩] 23)).alloc (.cells #[.int .i64 0, .int .i64 0, .string ⟨#[]⟩, .string ⟨#[112]⟩, .slice (some ⟨X1.heap.size, 0, none⟩) 1 1] 26)) X1.heap.size #[.int .i64 3, .int .i64 2000, .string ⟨#[]⟩] 23 := (CBlk.new X1 #[.int .i64 3, .int .i64 2000, .string ⟨#[]⟩] 23).later (below1 _ _)
    have hC : CBlk ((X1.alloc (.cells #[.int .i64 3, .int .i64 2000, .string ⟨#[]⟩] 23)).alloc (.cells #[.int .i64 0, .int .i64 0, .string ⟨#[]⟩, .string ⟨#[112]⟩, .slice (some ⟨X1.heap.size, 0, none⟩) 1 1] 26)) (X1.heap.size + 1) #[.int .i64 0, .int .i64 0, .string ⟨#[]⟩, .string ⟨#[112]⟩, .slice (some ⟨X1.heap.size, 0, none⟩) 1 1] 26 := by have := CBlk.new (X1.alloc (.cells #[.int .i64 3, .int .i64 2000, .string ⟨#[]⟩] 23)) #[.int .i64 0, .int .i64 0, .string ⟨#[]⟩, .string ⟨#[112]⟩, .slice (some ⟨X1.heap.size, 0, none⟩) 1 1] 26; rwa [show (X1.alloc (.cells #[.int .i64 3, .int .i64 2000, .string ⟨#[]⟩] 23)).heap.size = X1.heap.size + 1 by simp] at this
    have hS : X1.heap.size + 1 + 1 = ((X1.alloc (.cells #[.int .i64 3, .int .i64 2000, .string ⟨#[]⟩] 23)).alloc (.cells #[.int .i64 0, .int .i64 0, .string ⟨#[]⟩, .string ⟨#[112]⟩, .slice (some ⟨X1.heap.size, 0, none⟩) 1 1] 26)).heap.size := by simp
    have HAC : Hid (CBlk ((X1.alloc (.cells #[.int .i64 3, .int .i64 2000, .string ⟨#[]⟩] 23)).alloc (.cells #[.int .i64 0, .int .i64 0, .string ⟨#[]⟩, .string ⟨#[112]⟩, .slice (some ⟨X1.heap.size, 0, none⟩) 1 1] 26)) X1.heap.size #[.int .i64 3, .int .i64 2000, .string ⟨#[]⟩] 23 ∧ CBlk ((X1.alloc (.cells #[.int .i64 3, .int .i64 2000, .string ⟨#[]⟩] 23)).alloc (.cells #[.int .i64 0, .int .i64 0, .string ⟨#[]⟩, .string ⟨#[112]⟩, .slice (some ⟨X1.heap.size, 0, none⟩) 1 1] 26)) (X1.heap.size + 1) #[.int .i64 0, .int .i64 0, .string ⟨#[]⟩, .string ⟨#[112]⟩, .slice (some ⟨X1.heap.size, 0, none⟩) 1 1] 26 ∧ X1.heap.size + 1 + 1 = ((X1.alloc (.cells #[.int .i64 3, .int .i64 2000, .string ⟨#[]⟩] 23)).alloc (.cells #[.int .i64 0, .int .i64 0, .string ⟨#[]⟩, .string ⟨#[112]⟩, .slice (some ⟨X1.heap.size, 0, none⟩) 1 1] 26)).heap.size) := ⟨hA, hC, hS⟩
    have HGo : Hid (Go < X1.heap.size ∧ w.heap.size + 3 ≤ Go) := ⟨HBS.out.bo.lt, HBS.out.g1⟩
    have HOLD : Hid ((∀ k, Value.ownBlock (.slice d1 d2 d3) = some k → k < X1.heap.size) ∧ (∀ y ∈ db, ∀ k, y.2.ownBlock = some k → k < X1.heap.size) ∧ (∀ k, Value.ownBlock (.slice d7 d8 d9) = some k → k < X1.heap.size)) := ⟨fun k hk => (HBS.out.mc.h.lt k hk).2, fun y hy k hk => ((HBS.out.mc.x y hy).lt k hk).2, fun k hk => (HBS.out.mc.t.lt k hk).2⟩
    have hbx := below2 X1 (.cells #[.int .i64 3, .int .i64 2000, .string ⟨#[]⟩] 23) (.cells #[.int .i64 0, .int .i64 0, .string ⟨#[]⟩, .string ⟨#[112]⟩, .slice (some ⟨X1.heap.size, 0, none⟩) 1 1] 26)
    obtain ⟨e0, e1, e2, e3, e4, e5, e6⟩ := cseven HBS.out.bo
    simp only at e0 e1 e2 e3 e4 e5 e6
    have c5 := cell_step hbx HBS.out.bo.lt e5
    clear hA hC hS hbx e0 e1 e2 e3 e4 e5 e6 HBS
    have hb0 := hln.2.1
    go_upto_region 22 with (at_builtin; refine app_atoms rfl _ _ rfl (X1.heap.size + 1) [(⟨⟨0, 0, ⟨#[]⟩⟩, ⟨#[112]⟩, [⟨3, 2000, ⟨#[]⟩⟩]⟩, .slice (some ⟨X1.heap.size, 0, none⟩) 1 1)] (by rfl) (OwnA.one HAC.out.2.1 (Nat.le_refl _)) (.slice d4 d5 d6) db (w.heap.size + 3) (by rfl) HU.out.mc.b (fun z hz u hu => by obtain ⟨za, zn, zc, ze⟩ := ownT_form4 (HU.out.mc.x z hz); obtain ⟨z1, z2⟩ := z; simp only at ze; subst ze; exact acell_one _ _ _ _ u hu) (by simp; omega) HAC.out.2.2 ?_; intro v' w3 hown hb3 hg3 ha3; obtain ⟨va, vc, rfl⟩ := OwnA.form hown; obtain ⟨VN, hVN⟩ : ∃ n, ([((⟨⟨0, 0, ⟨#[]⟩⟩, ⟨#[112]⟩, [⟨3, 2000, ⟨#[]⟩⟩]⟩, .slice (some ⟨X1.heap.size, 0, none⟩) 1 1) : At × Value)] ++ db).length = n := ⟨_, rfl⟩; rw [hVN] at hown ha3 ⊢; have HVN : Hid (VN = db.length + 1) := (by show _ = _; rw [← hVN]; simp); clear hVN; have hD : CBlk w3 Go _ 30 := (hg3.block Go HU.out.bo.lt (fun e => by have := Option.some.inj e; have := HGo.out.1; omega)).trans HU.out.bo; have HB2 : Hid (BS w (w3.setCell ⟨Go, 5, none⟩ (.slice va VN vc)) Go (⟨⟨dk, dn, ds⟩, dm, da⟩, .slice d1 d2 d3) ((⟨⟨0, 0, ⟨#[]⟩⟩, ⟨#[112]⟩, [⟨3, 2000, ⟨#[]⟩⟩]⟩, .slice (some ⟨X1.heap.size, 0, none⟩) 1 1) :: db) (.slice va VN vc) dt (.slice d7 d8 d9)) := HU.out.body (row := some (X1.heap.size + 1)) (hown.mono (by have := HGo.out; omega)) (fun y hy => by rcases List.mem_cons.1 hy with rfl | hy; exact OwnT.one HAC.out.1 (by have := HGo.out; omega); exact HU.out.mc.x y hy) (hb3.mono (by have := HGo.out; omega)) hg3 (fun k hk => by cases hk; exact ⟨fun e => by have := HOLD.out.1 _ e; omega, fun y hy e => by rcases List.mem_cons.1 hy with rfl | hy; have e' : X1.heap.size = X1.heap.size + 1 := Option.some.inj e; omega; have := HOLD.out.2.1 y hy _ e; omega, fun e => by have := HOLD.out.2.2 _ e; omega, by have := HGo.out.1; omega⟩) ha3 (fun y hy k hk => by rcases List.mem_cons.1 hy with rfl | hy; have e' : X1.heap.size = k := Option.some.inj hk; have := HGo.out.1; omega; exact HU.out.fr.x y hy k hk); clear c5; obtain ⟨c0, c1, c2, c3, c4, c5, c6⟩ := cseven hD; have f5 : w3.frozen? ⟨Go, 5, none⟩ = false := hD.froz; clear hD hown hb3 hg3 ha3 HU)
    clear c0 c1 c2 c3 c4 c5 c6 f5 HAC HOLD
    revert HB2
    generalize w3.setCell ⟨Go, 5, none⟩ (.slice va VN vc) = X3
    generalize X1.heap.size = AA
    intro HB2
    obtain ⟨c0, c1, c2, c3, c4, c5, c6⟩ := cseven HB2.out.bo
    simp only at c0 c1 c2 c3 c4 c5 c6
    by_cases h8 : (8 : Int) < (VN : Int)
    · obtain ⟨gb, gcap, hgv⟩ : ∃ g c, Value.slice va VN vc = .slice (some ⟨g, 0, none⟩) VN c ∧ 1 ≤ c := by
        rcases HB2.out.mc.b.2 with ⟨_, hn⟩ | ⟨g', cap', cur, hv, _, _, hncap, -⟩
        · simp at hn
        · have hv2 : Value.slice va VN vc = .slice (some ⟨g', 0, none⟩) ((⟨⟨0, 0, ⟨#[]⟩⟩, ⟨#[112]⟩, [⟨3, 2000, ⟨#[]⟩⟩]⟩, .slice (some ⟨AA, 0, none⟩) 1 1) :: db).length cap' := hv
          simp only [Value.slice.injEq] at hv2
          exact ⟨g', cap', by rw [hv2.1, hv2.2.2], by simp at hncap; omega⟩
      simp only [Value.slice.injEq, true_and] at hgv
      obtain ⟨⟨rfl, rfl⟩, hc1⟩ := hgv
      have hcap : (1 : Int) ≤ (vc : Int) := by omega
      have hle : (1 : Int) ≤ (VN : Int) := by omega
      have HB4 : Hid (BS w (X3.setCell ⟨Go, 5, none⟩ (.slice (some ⟨gb, 0, none⟩) 1 vc)) Go (⟨⟨dk, dn, ds⟩, dm, da⟩, .slice d1 d2 d3) [(⟨⟨0, 0, ⟨#[]⟩⟩, ⟨#[112]⟩, [⟨3, 2000, ⟨#[]⟩⟩]⟩, .slice (some ⟨AA, 0, none⟩) 1 1)] (.slice (some ⟨gb, 0, none⟩) 1 vc) dt (.slice d7 d8 d9)) := HB2.out.body (row := some gb) (OwnA.take (l := (⟨⟨0, 0, ⟨#[]⟩⟩, ⟨#[112]⟩, [⟨3, 2000, ⟨#[]⟩⟩]⟩, .slice (some ⟨AA, 0, none⟩) 1 1) :: db) HB2.out.mc.b 1 (by simp)) (fun y hy => HB2.out.mc.x y (List.mem_cons.2 (Or.inl (List.mem_singleton.1 hy)))) (Below.refl _ _) (World.grownBy.refl _ _) (fun k hk => ⟨(HB2.out.mc.s k hk).1, fun y hy => (HB2.out.mc.s k hk).2.1 y (List.mem_cons.2 (Or.inl (List.mem_singleton.1 hy))), (HB2.out.mc.s k hk).2.2, HB2.out.fr.b k hk⟩) (fun k hk => Or.inl hk) (fun y hy => HB2.out.fr.x y (List.mem_cons.2 (Or.inl (List.mem_singleton.1 hy))))
      have f5 : X3.frozen? ⟨Go, 5, none⟩ = false := HB2.out.bo.froz
      go_upto_region 24 with fail
      clear c0 c1 c2 c3 c4 c5 c6 f5 HB2
      revert HB4
      generalize X3.setCell ⟨Go, 5, none⟩ (.slice (some ⟨gb, 0, none⟩) 1 vc) = X4
      intro HB4
      obtain ⟨c0, c1, c2, c3, c4, c5, c6⟩ := cseven HB4.out.bo
      simp only at c0 c1 c2 c3 c4 c5 c6
      have f6 : X4.frozen? ⟨Go, 6, none⟩ = false := HB4.out.bo.froz
      have HB5 : Hid (BS w (X4.setCell ⟨Go, 6, none⟩ (.slice none 0 0)) Go (⟨⟨dk, dn, ds⟩, dm, da⟩, .slice d1 d2 d3) [(⟨⟨0, 0, ⟨#[]⟩⟩, ⟨#[112]⟩, [⟨3, 2000, ⟨#[]⟩⟩]⟩, .slice (some ⟨AA, 0, none⟩) 1 1)] (.slice (some ⟨gb, 0, none⟩) 1 vc) [] (.slice none 0 0)) := HB4.out.tests (OwnE.nil _ _) (fun k _ => by simp [Value.ownBlock]) (fun k hk => by simp [Value.ownBlock] at hk)
      go_upto_region 25 with fail
      clear c0 c1 c2 c3 c4 c5 c6 f6 HB4
      revert HB5
      generalize X4.setCell ⟨Go, 6, none⟩ (.slice none 0 0) = X5
      intro HB5
      obtain ⟨c0, c1, c2, c3, c4, c5, c6⟩ := cseven HB5.out.bo
      simp only at c0 c1 c2 c3 c4 c5 c6
      have f4 : X5.frozen? ⟨Go, 4, none⟩ = false := HB5.out.bo.froz
      have HB6 : Hid (BS w (X5.setCell ⟨Go, 4, none⟩ (.slice none 0 0)) Go (⟨⟨dk, dn, ds⟩, dm, []⟩, .slice none 0 0) [(⟨⟨0, 0, ⟨#[]⟩⟩, ⟨#[112]⟩, [⟨3, 2000, ⟨#[]⟩⟩]⟩, .slice (some ⟨AA, 0, none⟩) 1 1)] (.slice (some ⟨gb, 0, none⟩) 1 vc) [] (.slice none 0 0)) := HB5.out.noargs
      go_upto_region 26 with fail
      clear c0 c1 c2 c3 c4 c5 c6 f4 HB5
      revert HB6
      generalize X5.setCell ⟨Go, 4, none⟩ (.slice none 0 0) = X6
      intro HB6
      obtain ⟨c0, c1, c2, c3, c4, c5, c6⟩ := cseven HB6.out.bo
      simp only at c0 c1 c2 c3 c4 c5 c6
      obtain ⟨r0, r1, r2, r3, r4, r5, r6⟩ := cseven HB6.out.br
      have g0 : X6.frozen? ⟨w.heap.size + 1 + 1, 0, none⟩ = false := HB6.out.br.froz
      have g1 : X6.frozen? ⟨w.heap.size + 1 + 1, 1, none⟩ = false := HB6.out.br.froz
      have g2 : X6.frozen? ⟨w.heap.size + 1 + 1, 2, none⟩ = false := HB6.out.br.froz
      have g3 : X6.frozen? ⟨w.heap.size + 1 + 1, 3, none⟩ = false := HB6.out.br.froz
      have g4 : X6.frozen? ⟨w.heap.size + 1 + 1, 4, none⟩ = false := HB6.out.br.froz
      have g5 : X6.frozen? ⟨w.heap.size + 1 + 1, 5, none⟩ = false := HB6.out.br.froz
      have g6 : X6.frozen? ⟨w.heap.size + 1 + 1, 6, none⟩ = false := HB6.out.br.froz
      have n3 : w.heap.size + 1 + 1 < w.heap.size + 3 := by omega
      have n4 : w.heap.size ≤ w.heap.size + 1 + 1 := by omega
      go_wp2
      refine bodyPost_ret (v := .tuple #[Cm.v ⟨(⟨⟨dk, dn, ds⟩, dm, []⟩, .slice none 0 0), [(⟨⟨0, 0, ⟨#[]⟩⟩, ⟨#[112]⟩, [⟨3, 2000, ⟨#[]⟩⟩]⟩, .slice (some ⟨AA, 0, none⟩) 1 1)], .slice (some ⟨gb, 0, none⟩) 1 vc, [], .slice none 0 0⟩, .int .i64 35]) (by simp [results, Try.results8, go_sem, r0, r1, r2, r3, r4, r5, r6]) rfl ⟨⟨(⟨⟨dk, dn, ds⟩, dm, []⟩, .slice none 0 0), [(⟨⟨0, 0, ⟨#[]⟩⟩, ⟨#[112]⟩, [⟨3, 2000, ⟨#[]⟩⟩]⟩, .slice (some ⟨AA, 0, none⟩) 1 1)], .slice (some ⟨gb, 0, none⟩) 1 vc, [], .slice none 0 0⟩, 35, rfl, ?_, ?_, ?_, ?_⟩
      · exact (((((((HB6.out.mc.set n3 _).set n3 _).set n3 _).set n3 _).set n3 _).set n3 _).set n3 _).ok (by simp) (by simp) (fun y hy => by simp at hy; subst hy; simp) (by simp)
      · exact wf_of (fun t ht hv => by
          have ht' : t ∈ (⟨dk, dn, ds⟩ :: ([] : List Tm)) ++ ([⟨0, 0, ⟨#[]⟩⟩, ⟨3, 2000, ⟨#[]⟩⟩] ++ ([] : List Tm)) := ht
          simp at ht'
          rcases ht' with rfl | rfl | rfl
          · have := hvn _ (by rw [← HDK.out]; unfold Ck.terms; simp [At.pl, Cm.key]) hv; omega
          · simp [Tm.var] at hv
          · show (2000 : Int) < _; omega) (by
          have e : Ck.terms (Cm.key ⟨(⟨⟨dk, dn, ds⟩, dm, []⟩, .slice none 0 0), [(⟨⟨0, 0, ⟨#[]⟩⟩, ⟨#[112]⟩, [⟨3, 2000, ⟨#[]⟩⟩]⟩, .slice (some ⟨AA, 0, none⟩) 1 1)], .slice (some ⟨gb, 0, none⟩) 1 vc, [], .slice none 0 0⟩) = (⟨dk, dn, ds⟩ :: ([] : List Tm)) ++ ([⟨0, 0, ⟨#[]⟩⟩, ⟨3, 2000, ⟨#[]⟩⟩] ++ ([] : List Tm)) := rfl
          rw [e]; simp)
      · exact br7 nmP_ok hval (by rw [← HDK.out]; rfl)
      · exact ((((((HB6.out.bw.setCell n4 _).setCell n4 _).setCell n4 _).setCell n4 _).setCell n4 _).setCell n4 _).setCell n4 _
    · clear c0 c1 c2 c3 c4 c5 c6
      obtain ⟨c0, c1, c2, c3, c4, c5, c6⟩ := cseven HB2.out.bo
      simp only at c0 c1 c2 c3 c4 c5 c6
      obtain ⟨r0, r1, r2, r3, r4, r5, r6⟩ := cseven HB2.out.br
      have g0 : X3.frozen? ⟨w.heap.size + 1 + 1, 0, none⟩ = false := HB2.out.br.froz
      have g1 : X3.frozen? ⟨w.heap.size + 1 + 1, 1, none⟩ = false := HB2.out.br.froz
      have g2 : X3.frozen? ⟨w.heap.size + 1 + 1, 2, none⟩ = false := HB2.out.br.froz
      have g3 : X3.frozen? ⟨w.heap.size + 1 + 1, 3, none⟩ = false := HB2.out.br.froz
      have g4 : X3.frozen? ⟨w.heap.size + 1 + 1, 4, none⟩ = false := HB2.out.br.froz
      have g5 : X3.frozen? ⟨w.heap.size + 1 + 1, 5, none⟩ = false := HB2.out.br.froz
      have g6 : X3.frozen? ⟨w.heap.size + 1 + 1, 6, none⟩ = false := HB2.out.br.froz
      have n3 : w.heap.size + 1 + 1 < w.heap.size + 3 := by omega
      have n4 : w.heap.size ≤ w.heap.size + 1 + 1 := by omega
      go_wp2
      refine bodyPost_ret (v := .tuple #[Cm.v ⟨(⟨⟨dk, dn, ds⟩, dm, da⟩, .slice d1 d2 d3), ((⟨⟨0, 0, ⟨#[]⟩⟩, ⟨#[112]⟩, [⟨3, 2000, ⟨#[]⟩⟩]⟩, .slice (some ⟨AA, 0, none⟩) 1 1) :: db), .slice va VN vc, dt, .slice d7 d8 d9⟩, .int .i64 35]) (by simp [results, Try.results8, go_sem, r0, r1, r2, r3, r4, r5, r6]) rfl ⟨⟨(⟨⟨dk, dn, ds⟩, dm, da⟩, .slice d1 d2 d3), ((⟨⟨0, 0, ⟨#[]⟩⟩, ⟨#[112]⟩, [⟨3, 2000, ⟨#[]⟩⟩]⟩, .slice (some ⟨AA, 0, none⟩) 1 1) :: db), .slice va VN vc, dt, .slice d7 d8 d9⟩, 35, rfl, ?_, ?_, ?_, ?_⟩
      · exact (((((((HB2.out.mc.set n3 _).set n3 _).set n3 _).set n3 _).set n3 _).set n3 _).set n3 _).ok (by have := hln.1; show da.length < _; omega) (by show db.length + 1 < _; omega) (fun y hy => by rcases List.mem_cons.1 hy with rfl | hy; simp; have := hln.2.2.2 y hy; omega) (by have := hln.2.2.1; show dt.length < _; omega)
      · exact wf_of (fun t ht hv => by
          have ht' : t ∈ (Cm.key ⟨(⟨⟨dk, dn, ds⟩, dm, da⟩, .slice d1 d2 d3), db, .slice d4 d5 d6, dt, .slice d7 d8 d9⟩).1.pl ++ (([⟨0, 0, ⟨#[]⟩⟩, ⟨3, 2000, ⟨#[]⟩⟩] ++ (fsts db).flatMap At.pl) ++ tls (Cm.key ⟨(⟨⟨dk, dn, ds⟩, dm, da⟩, .slice d1 d2 d3), db, .slice d4 d5 d6, dt, .slice d7 d8 d9⟩).2.2) := ht
          rcases List.mem_append.1 ht' with h1 | h1
          · have := hvn t (by rw [← HDK.out]; unfold Ck.terms; exact List.mem_append_left _ h1) hv; omega
          · rcases List.mem_append.1 h1 with h1 | h1
            · rcases List.mem_append.1 h1 with h1 | h1
              · simp at h1
                rcases h1 with rfl | rfl
                · simp [Tm.var] at hv
                · show (2000 : Int) < _; omega
              · have := hvn t (by rw [← HDK.out]; unfold Ck.terms; exact List.mem_append_right _ (List.mem_append_left _ h1)) hv; omega
            · have := hvn t (by rw [← HDK.out]; unfold Ck.terms; exact List.mem_append_right _ (List.mem_append_right _ h1)) hv; omega) (by
          have h1 := hks.len
          rw [← HDK.out] at h1
          have e : Ck.terms (Cm.key ⟨(⟨⟨dk, dn, ds⟩, dm, da⟩, .slice d1 d2 d3), ((⟨⟨0, 0, ⟨#[]⟩⟩, ⟨#[112]⟩, [⟨3, 2000, ⟨#[]⟩⟩]⟩, .slice (some ⟨AA, 0, none⟩) 1 1) :: db), .slice va VN vc, dt, .slice d7 d8 d9⟩) = (Cm.key ⟨(⟨⟨dk, dn, ds⟩, dm, da⟩, .slice d1 d2 d3), db, .slice d4 d5 d6, dt, .slice d7 d8 d9⟩).1.pl ++ (([⟨0, 0, ⟨#[]⟩⟩, ⟨3, 2000, ⟨#[]⟩⟩] ++ (Cm.key ⟨(⟨⟨dk, dn, ds⟩, dm, da⟩, .slice d1 d2 d3), db, .slice d4 d5 d6, dt, .slice d7 d8 d9⟩).2.1.flatMap At.pl) ++ tls (Cm.key ⟨(⟨⟨dk, dn, ds⟩, dm, da⟩, .slice d1 d2 d3), db, .slice d4 d5 d6, dt, .slice d7 d8 d9⟩).2.2) := rfl
          rw [e]
          unfold Ck.terms at h1
          simp only [List.length_append, List.length_cons, List.length_nil] at h1 ⊢
          omega)
      · exact br6 nmP_ok hval (by rw [← HDK.out]; show (fsts db).length + 1 ≤ 8; have := HVN.out; simp [fsts]; omega) (by rw [← HDK.out]; rfl)
      · exact ((((((HB2.out.bw.setCell n4 _).setCell n4 _).setCell n4 _).setCell n4 _).setCell n4 _).setCell n4 _).setCell n4 _
  · have q1 : (kk == 1) = false := beq_eq_false_iff_ne.2 (by omega)
    have q2 : (kk == 2) = false := beq_eq_false_iff_ne.2 (by omega)
    have q3 : (kk == 3) = false := beq_eq_false_iff_ne.2 (by omega)
    have q4 : (kk == 4) = false := beq_eq_false_iff_ne.2 (by omega)
    have q5 : (kk == 5) = false := beq_eq_false_iff_ne.2 (by omega)
    have q6 : (kk == 6) = false := beq_eq_false_iff_ne.2 (by omega)
    clear hno
    obtain ⟨c0, c1, c2, c3, c4, c5, c6⟩ := cseven HBS.out.bo
    simp only at c0 c1 c2 c3 c4 c5 c6
    obtain ⟨r0, r1, r2, r3, r4, r5, r6⟩ := cseven HBS.out.br
    have g0 : X1.frozen? ⟨w.heap.size + 1 + 1, 0, none⟩ = false := HBS.out.br.froz
    have g1 : X1.frozen? ⟨w.heap.size + 1 + 1, 1, none⟩ = false := HBS.out.br.froz
    have g2 : X1.frozen? ⟨w.heap.size + 1 + 1, 2, none⟩ = false := HBS.out.br.froz
    have g3 : X1.frozen? ⟨w.heap.size + 1 + 1, 3, none⟩ = false := HBS.out.br.froz
    have g4 : X1.frozen? ⟨w.heap.size + 1 + 1, 4, none⟩ = false := HBS.out.br.froz
    have g5 : X1.frozen? ⟨w.heap.size + 1 + 1, 5, none⟩ = false := HBS.out.br.froz
    have g6 : X1.frozen? ⟨w.heap.size + 1 + 1, 6, none⟩ = false := HBS.out.br.froz
    have n3 : w.heap.size + 1 + 1 < w.heap.size + 3 := by omega
    have n4 : w.heap.size ≤ w.heap.size + 1 + 1 := by omega
    go_wp2
    refine bodyPost_ret (v := .tuple #[Cm.v ⟨(⟨⟨dk, dn, ds⟩, dm, da⟩, .slice d1 d2 d3), db, .slice d4 d5 d6, dt, .slice d7 d8 d9⟩, .int .i64 0]) (by simp [results, Try.results8, go_sem, r0, r1, r2, r3, r4, r5, r6]) rfl ⟨⟨(⟨⟨dk, dn, ds⟩, dm, da⟩, .slice d1 d2 d3), db, .slice d4 d5 d6, dt, .slice d7 d8 d9⟩, 0, rfl, ?_, ?_, ?_, ?_⟩
    · exact (((((((HBS.out.mc.set n3 _).set n3 _).set n3 _).set n3 _).set n3 _).set n3 _).set n3 _).ok (by have := hln.1; show da.length < _; omega) (by have := hln.2.1; show db.length < _; omega) (fun y hy => by have := hln.2.2.2 y hy; omega) (by have := hln.2.2.1; show dt.length < _; omega)
    · exact wf_of (fun t ht hv => by have := hvn t (by rw [← HDK.out]; exact ht) hv; omega) (by have := hks.len; rw [← HDK.out] at this; exact Nat.le_trans this (by omega))
    · exact chk_zero (by rw [HDK.out]; exact hval.e) (by rw [HDK.out]; exact hval.t) (by rw [HDK.out]; exact hval.bl) (by rw [HDK.out]; exact hval.tl) (by rw [HDK.out]; exact hval.h) (by rw [HDK.out]; exact hval.s) (by rw [HDK.out]; exact hmis)
    · exact ((((((HBS.out.bw.setCell n4 _).setCell n4 _).setCell n4 _).setCell n4 _).setCell n4 _).setCell n4 _).setCell n4 _
end Go.Proofs.Ytaiblofbdfbjcaa
