/-
  check.factOf: the fact of a step. (Written by HC2.py.)
-/
import Derived.Test.YtbhdalchnbfohaaHC0
import Derived.Test.YtbhdalchnbfohaaHC1
import Derived.Test.YtbhdalchnbfohaaCL12
import Derived.Test.YtbhdalchnbfohaaCL7
import Derived.Test.YtbhdalchnbfohaaRC1
import Derived.Test.YtbhdalchnbfohaaLE2
import Derived.Deep.RegionHeld3
import Derived.BigQuiet
namespace Go.Proofs.Ytbhdalchnbfohaa
open Go.RowKit
attribute [local go_sem ↓] Go.wp_at_zero Go.wp_at_succ

/-- A list of terms that stays wherever the blocks from B on stay. -/
def KpT (B : Nat) (X : World) (v : Value) (l : List Tm) : Prop := ∀ X' : World, X.heap.size ≤ X'.heap.size → (∀ b, B ≤ b → b < X.heap.size → X'.heap[b]? = X.heap[b]?) → Ts X' v l
theorem KpT.ts {B : Nat} {X : World} {v : Value} {l : List Tm} (h : KpT B X v l) : Ts X v l := h X (Nat.le_refl _) fun _ _ _ => rfl
theorem KpT.later {B : Nat} {X X' : World} {v : Value} {l : List Tm} (h : KpT B X v l) (hb : Below X.heap.size X X') : KpT B X' v l := fun Y hs ha =>
  h Y (Nat.le_trans hb.size hs) fun b h1 h2 => (ha b h1 (Nat.lt_of_lt_of_le h2 hb.size)).trans (hb.block b h2)
/-- What factOf leaves. -/
def FPH (w : World) (r : Except Int At) (e : Ending) (w' : World) : Prop := Below w.heap.size w w' ∧ match r with
  | .ok a => ∃ y, e = .returned (a.v y) ∧ KpT w.heap.size w' y a.args
  | .error c => e = .panicked [pH c]
theorem Ts.sl {w : World} {v : Value} {l : List Tm} (h : Ts w v l) : ∃ a cap, v = .slice a l.length cap := by obtain ⟨a, cap, e, -⟩ := h; exact ⟨a, cap, e⟩
theorem As.sl {w : World} {v : Value} {l : List (At × Value)} (h : As w v l) : ∃ a cap, v = .slice a l.length cap := by obtain ⟨a, cap, e, -⟩ := h; exact ⟨a, cap, e⟩
theorem Ts.cel {w : World} {a : Option Addr} {n cap j : Nat} {l : List Tm} {t : Tm} (h : Ts w (.slice a n cap) l) (ht : l[j]? = some t) : ∃ b o, a = some ⟨b, o, none⟩ ∧ b < w.heap.size ∧ w.cell? ⟨b, o + j * 3, none⟩ = some (.int .i64 t.k) ∧ w.cell? ⟨b, o + j * 3 + 1, none⟩ = some (.int .i64 t.n) ∧ w.cell? ⟨b, o + j * 3 + 2, none⟩ = some (.string t.s) := by
  obtain ⟨a', cap', e, -, hx⟩ := h
  simp only [Value.slice.injEq] at e
  obtain ⟨rfl, -, -⟩ := e
  rcases hx with rfl | ⟨b, o, rfl, hb, hx⟩
  · simp at ht
  · exact ⟨b, o, rfl, hb, hx j t ht⟩
theorem Ns.cel {w : World} {a : Option Addr} {n cap j : Nat} {l : List Int} {t : Int} (h : Ns w (.slice a n cap) l) (ht : l[j]? = some t) : ∃ b o, a = some ⟨b, o, none⟩ ∧ b < w.heap.size ∧ w.cell? ⟨b, o + j, none⟩ = some (.int .i64 t) := by
  obtain ⟨a', cap', e, -, hx⟩ := h
  simp only [Value.slice.injEq] at e
  obtain ⟨rfl, -, -⟩ := e
  rcases hx with rfl | ⟨b, o, rfl, hb, hx⟩
  · simp at ht
  · exact ⟨b, o, rfl, hb, hx j t ht⟩
set_option maxRecDepth 20000 in
set_option maxHeartbeats 800000 in
theorem factOf_no (R : List Ck) (s : St) (F : List At) (ra : Option Addr) (rn rc : Nat) (fv : Value) (w : World) (hs : s.ok w) (hl : rn = R.length) (hp : ¬ (0 ≤ s.rule ∧ s.rule < (rn : Int))) :
    Calls Try.prog 15 #[s.v, .slice ra rn rc, fv] w (FPH w (stepH R s.key F)) := by
  obtain ⟨⟨a1, cap1, x1⟩, ⟨a2, cap2, x2⟩, -, -⟩ := hs.shape
  have HE : Hid (stepH R s.key F = .error 122) := stepH_none (by rw [← hl]; exact hp)
  generalize stepH R s.key F = r at HE ⊢
  have HIP : Hid (∀ X : World, Calls Try.prog 20 #[.int .i64 s.rule, .int .i64 (rn : Int)] X fun e w' => e = .returned (.bool false) ∧ w' = X) := fun X => by
    have := isPlace_any s.rule rn X
    rwa [decide_eq_false hp] at this
  obtain ⟨tr, tl, tv, tu, tw⟩ := s
  simp only at x1 x2 HIP
  subst x1 x2
  have HB : Hid (CBlk ((w.alloc (.cells #[.int .i64 tr, .slice a1 tl.length cap1, .slice a2 tu.length cap2] 35)).alloc (.cells #[.int .i64 0, .int .i64 0, .string ⟨#[]⟩, .string ⟨#[]⟩, .slice none 0 0] 30)) w.heap.size #[.int .i64 tr, .slice a1 tl.length cap1, .slice a2 tu.length cap2] 35) := (CBlk.new _ _ _).later (below1 _ _)
  have HW : Hid (Below w.heap.size w ((w.alloc (.cells #[.int .i64 tr, .slice a1 tl.length cap1, .slice a2 tu.length cap2] 35)).alloc (.cells #[.int .i64 0, .int .i64 0, .string ⟨#[]⟩, .string ⟨#[]⟩, .slice none 0 0] 30))) := below2 _ _ _
  clear hs hl hp
  go_enter Try.func15, Try.ntmps15
  go_upto_region 1 with fail
  revert HB HW
  generalize (w.alloc (.cells #[.int .i64 tr, .slice a1 tl.length cap1, .slice a2 tu.length cap2] 35)).alloc (.cells #[.int .i64 0, .int .i64 0, .string ⟨#[]⟩, .string ⟨#[]⟩, .slice none 0 0] 30) = W0
  intro HB HW
  obtain ⟨c0, c1, c2⟩ := cthree HB.out
  go_wp2_with (first
    | (go_at_call 20; refine (HIP.out _).mono ?_; rintro e w1 ⟨rfl, ew⟩; have ew2 := ew.symm; clear ew; subst ew2)
    | (go_at_call 19; refine (demand_no 122 _).mono ?_; rintro e w2 ⟨rfl, ew⟩; have ew2 := ew.symm; clear ew; subst ew2))
  refine ⟨rfl, ?_⟩
  rw [HE.out]
  exact ⟨HW.out, rfl⟩
set_option maxRecDepth 20000 in
set_option maxHeartbeats 3000000 in
theorem factOf_go (R : List Cm) (rv : Value) (s : St) (n : Nat) (c : Cm) (FL : List (At × Value)) (fv : Value) (w : World) (hR : CsP w rv R) (hs : s.ok w) (hF : As w fv FL) (hn : s.rule = (n : Int)) (hc : R[n]? = some c) (hwf : c.wf) :
    Calls Try.prog 15 #[s.v, rv, fv] w (FPH w (ruleH c.key s.vals s.uses (fsts FL))) := by
  obtain ⟨ra, rc, rfl⟩ := hR.form
  obtain ⟨rb, ro, rfl, hrz, hrow, hok⟩ := hR.at_ hc
  have hsv := hrow.seven hc
  have hlt : n < R.length := (List.getElem?_eq_some_iff.1 hc).1
  obtain ⟨rn, hrn⟩ : ∃ k, k = R.length := ⟨_, rfl⟩
  rw [← hrn] at hlt ⊢
  have HIP : Hid (∀ X : World, Calls Try.prog 20 #[.int .i64 (n : Int), .int .i64 (rn : Int)] X fun e w' => e = .returned (.bool true) ∧ w' = X) := fun X => by
    have := isPlace_any (n : Int) rn X
    rwa [decide_eq_true ⟨by omega, by omega⟩] at this
  have HCK : Hid (∀ X : World, Below w.heap.size w X → Calls Try.prog 21 #[c.v] X fun e w' => e = .returned (.int .i64 c.chk) ∧ Below X.heap.size X w') := fun X hX => check9_any c X (hok.later hX) hwf
  have HVR0 : Hid (c.chk = 0 → ∀ X : World, Below w.heap.size w X → Calls Try.prog 22 #[c.v] X fun e w' => e = .returned (.int .i64 (nvH c.key : Nat)) ∧ Below X.heap.size X w') := fun h0 X hX => by
    have hks := (chk_ksH h0).len
    have hw : ∀ v ∈ c.vars, (Lit.int .i64 v).wf = true := fun v hv => by
      obtain ⟨t, ht, hv1, rfl⟩ := mem_vrs (l := c.terms) hv
      exact hwf.n t ht hv1
    have hl := vrs_len c.terms
    rw [key_terms] at hl
    have := cvars_any c X (hok.later hX) hw (by show (vrs c.terms).length < _; rw [key_terms]; omega)
    rw [show dis c.vars = dis (vrs (Ck.terms c.key)) by show dis (vrs c.terms) = _; rw [key_terms], dis_lenH] at this
    exact this
  have HIN0 : Hid (c.chk = 0 → ∀ X : World, Below w.heap.size w X → Calls Try.prog 24 #[c.v, s.vv] X fun e w' => ∃ d : Cm, e = .returned d.v ∧ d.key = mapC (ins s.vals) c.key ∧ Kp X.heap.size w' d ∧ Below X.heap.size X w') := fun h0 X hX => inst4_any c s.vals s.vv X (hok.later hX) (hs.t.later hX) (chk_ksH h0)
  have HBL : Hid (c.body.length = c.key.2.1.length) := (key_len c).1
  have HFL : Hid (As w fv FL) := hF
  have HTS : Hid (Ts w s.vv s.vals) := hs.t
  have HNS : Hid (Ns w s.uv s.uses) := hs.u
  have HCH : Hid (c.chk = chkH c.key) := chk_keyH c
  have hcsh := hok.shape
  obtain ⟨⟨a1, cap1, x1⟩, ⟨a2, cap2, x2⟩, l1, l2⟩ := hs.shape
  obtain ⟨fa, fc, rfl⟩ := hF.sl
  obtain ⟨r, hr⟩ : ∃ r, ruleH c.key s.vals s.uses (fsts FL) = r := ⟨_, rfl⟩
  rw [hr]
  have HR : Hid (ruleH c.key s.vals s.uses (fsts FL) = r) := hr
  obtain ⟨KC, hKC⟩ : ∃ k, c.key = k := ⟨_, rfl⟩
  rw [hKC] at HVR0 HIN0 HBL HR HCH
  obtain ⟨CH, hCH⟩ : ∃ k, c.chk = k := ⟨_, rfl⟩
  rw [hCH] at HCK HVR0 HIN0 HCH
  clear hR hF hok hrow hr hwf hKC hCH hs hc
  obtain ⟨tr, V, tv, U, tw⟩ := s
  simp only at x1 x2 l1 l2 HIN0 HTS HNS HR hn
  subst x1 x2 hn
  obtain ⟨ln, hln⟩ : ∃ k, k = V.length := ⟨_, rfl⟩
  obtain ⟨lu, hlu⟩ : ∃ k, k = U.length := ⟨_, rfl⟩
  obtain ⟨fn, hfn⟩ : ∃ k, k = FL.length := ⟨_, rfl⟩
  rw [← hln] at HTS HIN0 l1 ⊢
  rw [← hlu] at HNS l2 ⊢
  rw [← hfn] at HFL ⊢
  have HLN : Hid (ln = V.length ∧ lu = U.length ∧ fn = FL.length) := ⟨hln, hlu, hfn⟩
  obtain ⟨⟨⟨⟨ck, cm, cs⟩, cn, cl⟩, cx⟩, cb, cbv, ct, ctv⟩ := c
  simp only at hsv hcsh HBL
  obtain ⟨⟨c1, c2, c3, e1⟩, ⟨c4, c6, e2⟩, ⟨c7, c9, e3⟩, -, -⟩ := hcsh
  obtain ⟨c5, h5⟩ : ∃ k, cb.length = k := ⟨_, rfl⟩
  obtain ⟨c8, h8⟩ : ∃ k, ct.length = k := ⟨_, rfl⟩
  rw [h5] at e2 HBL
  rw [h8] at e3
  subst e1 e2 e3
  clear h5 h8 hln hlu hfn hrn
  obtain ⟨g0, g1, g2, g3, g4, g5, g6⟩ := hsv
  have HG := conj7 g0 g1 g2 g3 g4 g5 g6
  have HGz : Hid (rb < w.heap.size) := hrz
  clear g0 g1 g2 g3 g4 g5 g6 hrz
  have HS0 : Hid (CBlk ((w.alloc (.cells #[.int .i64 (n : Int), .slice a1 ln cap1, .slice a2 lu cap2] 35)).alloc (.cells #[.int .i64 0, .int .i64 0, .string ⟨#[]⟩, .string ⟨#[]⟩, .slice none 0 0] 30)) w.heap.size #[.int .i64 (n : Int), .slice a1 ln cap1, .slice a2 lu cap2] 35) := (CBlk.new _ _ _).later (below1 _ _)
  have HA0 : Hid (CBlk ((w.alloc (.cells #[.int .i64 (n : Int), .slice a1 ln cap1, .slice a2 lu cap2] 35)).alloc (.cells #[.int .i64 0, .int .i64 0, .string ⟨#[]⟩, .string ⟨#[]⟩, .slice none 0 0] 30)) (w.heap.size + 1) #[.int .i64 0, .int .i64 0, .string ⟨#[]⟩, .string ⟨#[]⟩, .slice none 0 0] 30) := by
    have := CBlk.new (w.alloc (.cells #[.int .i64 (n : Int), .slice a1 ln cap1, .slice a2 lu cap2] 35)) #[.int .i64 0, .int .i64 0, .string ⟨#[]⟩, .string ⟨#[]⟩, .slice none 0 0] 30
    rwa [show (w.alloc (.cells #[.int .i64 (n : Int), .slice a1 ln cap1, .slice a2 lu cap2] 35)).heap.size = w.heap.size + 1 by simp] at this
  have HW0 : Hid (Below w.heap.size w ((w.alloc (.cells #[.int .i64 (n : Int), .slice a1 ln cap1, .slice a2 lu cap2] 35)).alloc (.cells #[.int .i64 0, .int .i64 0, .string ⟨#[]⟩, .string ⟨#[]⟩, .slice none 0 0] 30))) := below2 _ _ _
  have n0 : (0 : Int) ≤ (n : Int) := by omega
  have n1 : (n : Int) < (rn : Int) := by omega
  clear hlt
  go_enter Try.func15, Try.ntmps15
  go_upto_region 1 with fail
  revert HS0 HA0 HW0
  generalize (w.alloc (.cells #[.int .i64 (n : Int), .slice a1 ln cap1, .slice a2 lu cap2] 35)).alloc (.cells #[.int .i64 0, .int .i64 0, .string ⟨#[]⟩, .string ⟨#[]⟩, .slice none 0 0] 30) = W0
  intro HS0 HA0 HW0
  obtain ⟨p0, p1, p2⟩ := cthree HS0.out
  have HGC : Hid (∀ X : World, Below w.heap.size w X → X.cell? ⟨rb, ro + n * 7, none⟩ = some (.int .i64 ck) ∧ X.cell? ⟨rb, ro + n * 7 + 1, none⟩ = some (.int .i64 cm) ∧ X.cell? ⟨rb, ro + n * 7 + 2, none⟩ = some (.string cs) ∧ X.cell? ⟨rb, ro + n * 7 + 3, none⟩ = some (.string cn) ∧ X.cell? ⟨rb, ro + n * 7 + 4, none⟩ = some (.slice c1 c2 c3) ∧ X.cell? ⟨rb, ro + n * 7 + 5, none⟩ = some (.slice c4 c5 c6) ∧ X.cell? ⟨rb, ro + n * 7 + 6, none⟩ = some (.slice c7 c8 c9)) := fun X hX => by
    obtain ⟨g0, g1, g2, g3, g4, g5, g6⟩ := Hid.out HG
    have z := HGz.out
    exact ⟨cell_step hX z g0, cell_step hX z g1, cell_step hX z g2, cell_step hX z g3, cell_step hX z g4, cell_step hX z g5, cell_step hX z g6⟩
  clear HG HGz
  obtain ⟨g0, g1, g2, g3, g4, g5, g6⟩ := HGC.out _ HW0.out
  by_cases hz : CH = 0
  case neg =>
    have HE : Hid (r = .error 122) := by show r = _; rw [← HR.out]; exact ruleH_1 (by rw [← HCH.out]; exact hz)
    have hz1 : (CH == 0) = false := by simpa using hz
    clear hz HR HCH HVR0 HIN0
    go_wp2_with (first
      | (go_at_call 20; refine (HIP.out _).mono ?_; rintro e w1 ⟨rfl, ew⟩; have ew2 := ew.symm; clear ew; subst ew2)
      | (go_at_call 21; refine (HCK.out _ HW0.out).mono ?_; rintro e w1 ⟨rfl, hb⟩; have HW1 : Hid (Below w.heap.size w w1) := below_step HW0.out hb; clear hb)
      | (go_at_call 19; refine (demand_no 122 _).mono ?_; rintro e w2 ⟨rfl, ew⟩; have ew2 := ew.symm; clear ew; subst ew2))
    refine ⟨rfl, ?_⟩
    rw [HE.out]
    exact ⟨HW1.out, rfl⟩
  case pos =>
  subst hz
  have HC0 : Hid (chkH KC = 0) := HCH.out.symm
  have HVR : Hid (∀ X : World, Below w.heap.size w X → Calls Try.prog 22 #[.agg #[.int .i64 ck, .int .i64 cm, .string cs, .string cn, .slice c1 c2 c3, .slice c4 c5 c6, .slice c7 c8 c9]] X fun e w' => e = .returned (.int .i64 (nvH KC : Nat)) ∧ Below X.heap.size X w') := HVR0.out rfl
  have HIN : Hid (∀ X : World, Below w.heap.size w X → Calls Try.prog 24 #[.agg #[.int .i64 ck, .int .i64 cm, .string cs, .string cn, .slice c1 c2 c3, .slice c4 c5 c6, .slice c7 c8 c9], .slice a1 ln cap1] X fun e w' => ∃ d : Cm, e = .returned d.v ∧ d.key = mapC (ins V) KC ∧ Kp X.heap.size w' d ∧ Below X.heap.size X w') := HIN0.out rfl
  clear HVR0 HIN0 HCH
  go_upto_region 3 with (first
    | (go_at_call 20; refine (HIP.out _).mono ?_; rintro e w1 ⟨rfl, ew⟩; have ew2 := ew.symm; clear ew; subst ew2)
    | (go_at_call 21; refine (HCK.out _ HW0.out).mono ?_; rintro e w1 ⟨rfl, hb⟩; have HS1 : Hid (CBlk w1 w.heap.size #[.int .i64 (n : Int), .slice a1 ln cap1, .slice a2 lu cap2] 35) := HS0.out.later hb; have HA1 : Hid (CBlk w1 (w.heap.size + 1) #[.int .i64 0, .int .i64 0, .string ⟨#[]⟩, .string ⟨#[]⟩, .slice none 0 0] 30) := HA0.out.later hb; have HW1 : Hid (Below w.heap.size w w1) := below_step HW0.out hb; clear hb g0 g1 g2 g3 g4 g5 g6 p0 p1 p2; obtain ⟨g0, g1, g2, g3, g4, g5, g6⟩ := HGC.out _ HW1.out; obtain ⟨p0, p1, p2⟩ := cthree HS1.out)
    | (go_at_call 19; refine (demand_yes 122 _).mono ?_; rintro e w2 ⟨rfl, ew⟩; have ew2 := ew.symm; clear ew; subst ew2))
  clear g0 g1 g2 g3 g4 g5 g6 p0 p1 p2 HS0 HA0 HW0 HIP HCK HGC
  have HS2 : Hid (CBlk (w1.alloc (.cells #[.int .i64 ck, .int .i64 cm, .string cs, .string cn, .slice c1 c2 c3, .slice c4 c5 c6, .slice c7 c8 c9] 50)) w.heap.size #[.int .i64 (n : Int), .slice a1 ln cap1, .slice a2 lu cap2] 35) := HS1.out.later (below1 _ _)
  have HA2 : Hid (CBlk (w1.alloc (.cells #[.int .i64 ck, .int .i64 cm, .string cs, .string cn, .slice c1 c2 c3, .slice c4 c5 c6, .slice c7 c8 c9] 50)) (w.heap.size + 1) #[.int .i64 0, .int .i64 0, .string ⟨#[]⟩, .string ⟨#[]⟩, .slice none 0 0] 30) := HA1.out.later (below1 _ _)
  have HC2 : Hid (CBlk (w1.alloc (.cells #[.int .i64 ck, .int .i64 cm, .string cs, .string cn, .slice c1 c2 c3, .slice c4 c5 c6, .slice c7 c8 c9] 50)) w1.heap.size #[.int .i64 ck, .int .i64 cm, .string cs, .string cn, .slice c1 c2 c3, .slice c4 c5 c6, .slice c7 c8 c9] 50) := CBlk.new _ _ _
  have HW2 : Hid (Below w.heap.size w (w1.alloc (.cells #[.int .i64 ck, .int .i64 cm, .string cs, .string cn, .slice c1 c2 c3, .slice c4 c5 c6, .slice c7 c8 c9] 50))) := below_step HW1.out (below1 _ _)
  clear HS1 HA1 HW1
  revert HS2 HA2 HC2 HW2
  generalize w1.alloc (.cells #[.int .i64 ck, .int .i64 cm, .string cs, .string cn, .slice c1 c2 c3, .slice c4 c5 c6, .slice c7 c8 c9] 50) = X2
  generalize w1.heap.size = G7
  intro HS2 HA2 HC2 HW2
  have HVR : Hid (∀ Y : World, Below X2.heap.size X2 Y → Calls Try.prog 22 #[.agg #[.int .i64 ck, .int .i64 cm, .string cs, .string cn, .slice c1 c2 c3, .slice c4 c5 c6, .slice c7 c8 c9]] Y fun e w' => e = .returned (.int .i64 (nvH KC : Nat)) ∧ Below Y.heap.size Y w') := fun Y hY => HVR.out Y (below_step HW2.out hY)
  obtain ⟨nv, hnv⟩ : ∃ k, nvH KC = k := ⟨_, rfl⟩
  rw [hnv] at HVR
  have HNV : Hid (nvH KC = nv) := hnv
  clear hnv
  by_cases hz : ln = nv
  case neg =>
    have HE : Hid (r = .error 123) := by show r = _; rw [← HR.out]; exact ruleH_2 HC0.out (by rw [← HLN.out.1, HNV.out]; exact hz)
    have hz1 : ((ln : Int) == (nv : Int)) = false := by simp; omega
    clear hz HR
    refine wp_region_held_drew (S := fun w' => Below X2.heap.size X2 w') (by kernel_rfl) (Below.refl _ _).drew (fun hH => ?_)
    revert hH
    generalize X2.drew = W9
    intro hH
    refine wpAnyH_take (i := 0) (oi := ⟨_, _, _, _, _, _⟩) (v := .pointer (some ⟨w.heap.size, 1, none⟩)) rfl (by kernel_rfl) (by kernel_rfl) (by kernel_rfl) (fun _ _ _ h => h) (Or.inl ⟨by rfl, fun w' _ => by go_simp⟩) hH ?_
    simp only [Act.put, List.setIfInBounds_toArray, List.set_cons_zero, List.set_cons_succ]
    refine wpAnyH_take (i := 1) (oi := ⟨_, _, _, _, _, _⟩) (v := .slice a1 ln cap1) rfl (by kernel_rfl) (by kernel_rfl) (by kernel_rfl) (fun _ _ _ h => h) (Or.inl ⟨by rfl, fun w' h => by obtain ⟨q0, q1, q2⟩ := cthree (HS2.out.later h); clear h; go_simp⟩) hH ?_
    simp only [Act.put, List.setIfInBounds_toArray, List.set_cons_zero, List.set_cons_succ]
    refine wpAnyH_take (i := 2) (oi := ⟨_, _, _, _, _, _⟩) (v := .int .i64 (ln : Int)) rfl (by kernel_rfl) (by kernel_rfl) (by kernel_rfl) (fun _ _ _ h => h) (Or.inl ⟨by rfl, fun w' _ => by go_simp⟩) hH ?_
    simp only [Act.put, List.setIfInBounds_toArray, List.set_cons_zero, List.set_cons_succ]
    refine wpAnyH_take (i := 3) (oi := ⟨_, _, _, _, _, _⟩) (v := .agg #[.int .i64 ck, .int .i64 cm, .string cs, .string cn, .slice c1 c2 c3, .slice c4 c5 c6, .slice c7 c8 c9]) rfl (by kernel_rfl) (by kernel_rfl) (by kernel_rfl) (fun _ _ _ h => h) (Or.inl ⟨by rfl, fun w' h => by obtain ⟨q0, q1, q2, q3, q4, q5, q6⟩ := cseven (HC2.out.later h); clear h; go_simp⟩) hH ?_
    simp only [Act.put, List.setIfInBounds_toArray, List.set_cons_zero, List.set_cons_succ]
    refine wpAnyH_ready (rs := [4]) (by kernel_rfl) (by simp) ?_
    refine (AllReadyH.cons (o := ⟨_, _, _, _, _, _⟩) rfl (fun K hK => ?_) AllReadyH.nil)
    go_simp
    refine (HVR.out _ hH).mono ?_
    rintro e V1 ⟨rfl, hb⟩
    refine hK.out _ _ (below_step hH hb) (fun hH => ?_)
    clear hK K
    clear hb
    refine wpAnyH_take (i := 5) (oi := ⟨_, _, _, _, _, _⟩) (v := .bool false) rfl (by kernel_rfl) (by kernel_rfl) (by kernel_rfl) (fun _ _ _ h => h) (Or.inl ⟨by rfl, fun w' _ => by go_simp⟩) hH ?_
    simp only [Act.put, List.setIfInBounds_toArray, List.set_cons_zero, List.set_cons_succ]
    refine wpAnyH_ready (rs := [6]) (by kernel_rfl) (by simp) ?_
    refine (AllReadyH.cons (o := ⟨_, _, _, _, _, _⟩) rfl (fun K hK => ?_) AllReadyH.nil)
    go_simp
    refine (demand_no 123 _).mono ?_
    rintro e V2 ⟨rfl, ew⟩
    have ew2 := ew.symm
    clear ew
    subst ew2
    refine ⟨rfl, ?_⟩
    rw [HE.out]
    exact ⟨below_step HW2.out hH, rfl⟩
  case pos =>
  have hz1 : ((ln : Int) == (nv : Int)) = true := by simp; omega
  have HV2 : Hid (V.length = nvH KC) := by show _ = _; rw [← HLN.out.1, HNV.out]; exact hz
  clear hz
  refine wp_region_held_drew (S := fun w' => Below X2.heap.size X2 w') (by kernel_rfl) (Below.refl _ _).drew (fun hH => ?_)
  revert hH
  generalize X2.drew = W9
  intro hH
  refine wpAnyH_take (i := 0) (oi := ⟨_, _, _, _, _, _⟩) (v := .pointer (some ⟨w.heap.size, 1, none⟩)) rfl (by kernel_rfl) (by kernel_rfl) (by kernel_rfl) (fun _ _ _ h => h) (Or.inl ⟨by rfl, fun w' _ => by go_simp⟩) hH ?_
  simp only [Act.put, List.setIfInBounds_toArray, List.set_cons_zero, List.set_cons_succ]
  refine wpAnyH_take (i := 1) (oi := ⟨_, _, _, _, _, _⟩) (v := .slice a1 ln cap1) rfl (by kernel_rfl) (by kernel_rfl) (by kernel_rfl) (fun _ _ _ h => h) (Or.inl ⟨by rfl, fun w' h => by obtain ⟨q0, q1, q2⟩ := cthree (HS2.out.later h); clear h; go_simp⟩) hH ?_
  simp only [Act.put, List.setIfInBounds_toArray, List.set_cons_zero, List.set_cons_succ]
  refine wpAnyH_take (i := 2) (oi := ⟨_, _, _, _, _, _⟩) (v := .int .i64 (ln : Int)) rfl (by kernel_rfl) (by kernel_rfl) (by kernel_rfl) (fun _ _ _ h => h) (Or.inl ⟨by rfl, fun w' _ => by go_simp⟩) hH ?_
  simp only [Act.put, List.setIfInBounds_toArray, List.set_cons_zero, List.set_cons_succ]
  refine wpAnyH_take (i := 3) (oi := ⟨_, _, _, _, _, _⟩) (v := .agg #[.int .i64 ck, .int .i64 cm, .string cs, .string cn, .slice c1 c2 c3, .slice c4 c5 c6, .slice c7 c8 c9]) rfl (by kernel_rfl) (by kernel_rfl) (by kernel_rfl) (fun _ _ _ h => h) (Or.inl ⟨by rfl, fun w' h => by obtain ⟨q0, q1, q2, q3, q4, q5, q6⟩ := cseven (HC2.out.later h); clear h; go_simp⟩) hH ?_
  simp only [Act.put, List.setIfInBounds_toArray, List.set_cons_zero, List.set_cons_succ]
  refine wpAnyH_ready (rs := [4]) (by kernel_rfl) (by simp) ?_
  refine (AllReadyH.cons (o := ⟨_, _, _, _, _, _⟩) rfl (fun K hK => ?_) AllReadyH.nil)
  go_simp
  refine (HVR.out _ hH).mono ?_
  rintro e V1 ⟨rfl, hb⟩
  refine hK.out _ _ (below_step hH hb) (fun hH => ?_)
  clear hK K
  clear hb
  refine wpAnyH_take (i := 5) (oi := ⟨_, _, _, _, _, _⟩) (v := .bool true) rfl (by kernel_rfl) (by kernel_rfl) (by kernel_rfl) (fun _ _ _ h => h) (Or.inl ⟨by rfl, fun w' _ => by go_simp⟩) hH ?_
  simp only [Act.put, List.setIfInBounds_toArray, List.set_cons_zero, List.set_cons_succ]
  refine wpAnyH_ready (rs := [6]) (by kernel_rfl) (by simp) ?_
  refine (AllReadyH.cons (o := ⟨_, _, _, _, _, _⟩) rfl (fun K hK => ?_) AllReadyH.nil)
  go_simp
  refine (demand_yes 123 _).mono ?_
  rintro e V2 ⟨rfl, ew⟩
  have ew2 := ew.symm
  clear ew
  subst ew2
  refine hK.out _ _ hH (fun hH => ?_)
  clear hK K
  refine wpAnyH_done (by kernel_rfl) ?_ _
  have HV : Hid (Below X2.heap.size X2 V1) := hH
  clear hH
  have HS3 : Hid (CBlk V1 w.heap.size #[.int .i64 (n : Int), .slice a1 ln cap1, .slice a2 lu cap2] 35) := HS2.out.later HV.out
  have HA3 : Hid (CBlk V1 (w.heap.size + 1) #[.int .i64 0, .int .i64 0, .string ⟨#[]⟩, .string ⟨#[]⟩, .slice none 0 0] 30) := HA2.out.later HV.out
  have HC3 : Hid (CBlk V1 G7 #[.int .i64 ck, .int .i64 cm, .string cs, .string cn, .slice c1 c2 c3, .slice c4 c5 c6, .slice c7 c8 c9] 50) := HC2.out.later HV.out
  have HW3 : Hid (Below w.heap.size w V1) := below_step HW2.out HV.out
  clear HS2 HA2 HC2 HW2 HV HVR HNV
  obtain ⟨p0, p1, p2⟩ := cthree HS3.out
  have lnb : ln < 1000000000000000000 := l1
  go_wp2_with fail
  clear p0 p1 p2
  go_loopg [49] ln (fun g i wr => ∃ j : Nat, j + g = ln ∧ i = .int .i64 (j : Int) ∧ (∀ (k : Nat) (x : Tm), k < j → V[k]? = some x → x.con = true) ∧ Below V1.heap.size V1 wr)
  case atStart => exact ⟨0, by omega, rfl, (fun k x hk => absurd hk (by omega)), Below.refl _ _⟩
  case round =>
  obtain ⟨j, hj, rfl, hco, hb⟩ := hrel
  have HCO : Hid (∀ (k : Nat) (x : Tm), k < j → V[k]? = some x → x.con = true) := hco
  have HBr : Hid (Below V1.heap.size V1 wr) := hb
  clear hco hb
  cases gk with
  | succ g =>
    have i1 : (j : Int) < (ln : Int) := by omega
    have i0 : (0 : Int) ≤ (j : Int) := by omega
    obtain ⟨t, ht⟩ : ∃ t, V[j]? = some t := ⟨_, List.getElem?_eq_getElem (by have := HLN.out.1; omega)⟩
    obtain ⟨b1, o1, rfl, hb1, e0, e1, e2⟩ := (HTS.out.later (below_step HW3.out HBr.out)).cel ht
    have HCN : Hid (∀ X : World, Calls Try.prog 23 #[t.v] X fun e w' => e = .returned (.bool t.con) ∧ Below X.heap.size X w') := fun X => con_any t X
    have HNX : Hid (t.con = true → ∀ (k : Nat) (x : Tm), k < j + 1 → V[k]? = some x → x.con = true) := fun h0 k x hk hx => by
      rcases Nat.lt_succ_iff_lt_or_eq.1 hk with hk | rfl
      · exact HCO.out k x hk hx
      · rw [ht] at hx; cases hx; exact h0
    have HNO : Hid (t.con = false → r = .error 123) := fun h0 => by rw [← HR.out]; exact ruleH_3 HC0.out HV2.out (allF ht h0)
    obtain ⟨q, hq⟩ : ∃ q, t.con = q := ⟨_, rfl⟩
    rw [hq] at HCN HNX HNO
    clear ht hq HCO
    obtain ⟨tk, tn, ts⟩ := t
    simp only at e0 e1 e2
    cases q
    case false =>
      have HE : Hid (r = .error 123) := HNO.out rfl
      go_wp2_with (first
        | (go_at_call 23; refine (HCN.out _).mono ?_; rintro e w3 ⟨rfl, hb⟩; have HB3 : Hid (Below V1.heap.size V1 w3) := below_step (below_step HBr.out (below1 _ _)) hb; clear hb)
        | (go_at_call 19; refine (demand_no 123 _).mono ?_; rintro e w4 ⟨rfl, ew⟩; have ew2 := ew.symm; clear ew; subst ew2))
      refine ⟨rfl, ?_⟩
      rw [HE.out]
      exact ⟨below_step HW3.out HB3.out, rfl⟩
    case true =>
      have HN2 : Hid (∀ (k : Nat) (x : Tm), k < j + 1 → V[k]? = some x → x.con = true) := HNX.out rfl
      go_wp2_with (first
        | (go_at_call 23; refine (HCN.out _).mono ?_; rintro e w3 ⟨rfl, hb⟩; have HB3 : Hid (Below V1.heap.size V1 w3) := below_step (below_step HBr.out (below1 _ _)) hb; clear hb)
        | (go_at_call 19; refine (demand_yes 123 _).mono ?_; rintro e w4 ⟨rfl, ew⟩; have ew2 := ew.symm; clear ew; subst ew2))
      go_roundg g
      case measure => omega
      case rel => exact ⟨j + 1, by omega, by go_num, HN2.out, HB3.out⟩
  | zero =>
  have hjl : j = ln := by omega
  have k1 : ¬ ((j : Int) < (ln : Int)) := by omega
  have HV3 : Hid (V.all Tm.con = true) := allT fun k x hx => HCO.out k x (by have := (List.getElem?_eq_some_iff.1 hx).1; have := HLN.out.1; omega) hx
  clear HCO hjl
  have HS4 : Hid (CBlk wr w.heap.size #[.int .i64 (n : Int), .slice a1 ln cap1, .slice a2 lu cap2] 35) := HS3.out.later HBr.out
  have HA4 : Hid (CBlk wr (w.heap.size + 1) #[.int .i64 0, .int .i64 0, .string ⟨#[]⟩, .string ⟨#[]⟩, .slice none 0 0] 30) := HA3.out.later HBr.out
  have HC4 : Hid (CBlk wr G7 #[.int .i64 ck, .int .i64 cm, .string cs, .string cn, .slice c1 c2 c3, .slice c4 c5 c6, .slice c7 c8 c9] 50) := HC3.out.later HBr.out
  have HW4 : Hid (Below w.heap.size w wr) := below_step HW3.out HBr.out
  clear HS3 HA3 HC3 HW3 HBr
  generalize wr = X4 at *
  obtain ⟨p0, p1, p2⟩ := cthree HS4.out
  obtain ⟨q0, q1, q2, q3, q4, q5, q6⟩ := cseven HC4.out
  by_cases hz : lu = c5
  case neg =>
    have HE : Hid (r = .error 124) := by show r = _; rw [← HR.out]; exact ruleH_4 HC0.out HV2.out HV3.out (by rw [← HLN.out.2.1, ← HBL.out]; exact hz)
    have hz1 : ((lu : Int) == (c5 : Int)) = false := by simp; omega
    clear hz HR
    go_wp2_with (go_at_call 19; refine (demand_no 124 _).mono ?_; rintro e w4 ⟨rfl, ew⟩; have ew2 := ew.symm; clear ew; subst ew2)
    refine ⟨rfl, ?_⟩
    rw [HE.out]
    exact ⟨HW4.out, rfl⟩
  case pos =>
  have hz1 : ((lu : Int) == (c5 : Int)) = true := by simp; omega
  have HV4 : Hid (U.length = KC.2.1.length) := by show _ = _; rw [← HLN.out.2.1, ← HBL.out]; exact hz
  clear hz
  have lub : lu < 1000000000000000000 := l2
  go_wp2_with (go_at_call 19; refine (demand_yes 124 _).mono ?_; rintro e w4 ⟨rfl, ew⟩; have ew2 := ew.symm; clear ew; subst ew2)
  clear p0 p1 p2 q0 q1 q2 q3 q4 q5 q6 k1 hj
  go_loopg [68] lu (fun g i wr => ∃ j : Nat, j + g = lu ∧ i = .int .i64 (j : Int) ∧ (∀ (k : Nat) (x : Int), k < j → U[k]? = some x → decide (0 ≤ x ∧ x < (fn : Int)) = true) ∧ Below X4.heap.size X4 wr)
  case atStart => exact ⟨0, by omega, rfl, (fun k x hk => absurd hk (by omega)), Below.refl _ _⟩
  case round =>
  obtain ⟨j, hj, rfl, hco, hb⟩ := hrel
  have HCO : Hid (∀ (k : Nat) (x : Int), k < j → U[k]? = some x → decide (0 ≤ x ∧ x < (fn : Int)) = true) := hco
  have HBr : Hid (Below X4.heap.size X4 wr) := hb
  clear hco hb
  cases gk with
  | succ g =>
    have i1 : (j : Int) < (lu : Int) := by omega
    have i0 : (0 : Int) ≤ (j : Int) := by omega
    obtain ⟨t, ht⟩ : ∃ t, U[j]? = some t := ⟨_, List.getElem?_eq_getElem (by have := HLN.out.2.1; omega)⟩
    obtain ⟨b1, o1, rfl, hb1, e0⟩ := (HNS.out.later (below_step HW4.out HBr.out)).cel ht
    have HCN : Hid (∀ X : World, Calls Try.prog 20 #[.int .i64 t, .int .i64 (fn : Int)] X fun e w' => e = .returned (.bool (decide (0 ≤ t ∧ t < (fn : Int)))) ∧ w' = X) := fun X => isPlace_any t fn X
    have HNX : Hid (decide (0 ≤ t ∧ t < (fn : Int)) = true → ∀ (k : Nat) (x : Int), k < j + 1 → U[k]? = some x → decide (0 ≤ x ∧ x < (fn : Int)) = true) := fun h0 k x hk hx => by
      rcases Nat.lt_succ_iff_lt_or_eq.1 hk with hk | rfl
      · exact HCO.out k x hk hx
      · rw [ht] at hx; cases hx; exact h0
    have HNO : Hid (decide (0 ≤ t ∧ t < (fn : Int)) = false → r = .error 124) := fun h0 => by
      rw [← HR.out]
      refine ruleH_5 HC0.out HV2.out HV3.out HV4.out (allF ht ?_)
      rw [show (fsts FL).length = fn by rw [HLN.out.2.2]; simp [fsts]]; exact h0
    obtain ⟨q, hq⟩ : ∃ q, decide (0 ≤ t ∧ t < (fn : Int)) = q := ⟨_, rfl⟩
    rw [hq] at HCN HNX HNO
    clear ht hq HCO
    cases q
    case false =>
      have HE : Hid (r = .error 124) := HNO.out rfl
      go_wp2_with (first
        | (go_at_call 20; refine (HCN.out _).mono ?_; rintro e w3 ⟨rfl, ew⟩; have ew2 := ew.symm; clear ew; subst ew2)
        | (go_at_call 19; refine (demand_no 124 _).mono ?_; rintro e w4 ⟨rfl, ew⟩; have ew2 := ew.symm; clear ew; subst ew2))
      refine ⟨rfl, ?_⟩
      rw [HE.out]
      exact ⟨below_step HW4.out HBr.out, rfl⟩
    case true =>
      have HN2 : Hid (∀ (k : Nat) (x : Int), k < j + 1 → U[k]? = some x → decide (0 ≤ x ∧ x < (fn : Int)) = true) := HNX.out rfl
      go_wp2_with (first
        | (go_at_call 20; refine (HCN.out _).mono ?_; rintro e w3 ⟨rfl, ew⟩; have ew2 := ew.symm; clear ew; subst ew2)
        | (go_at_call 19; refine (demand_yes 124 _).mono ?_; rintro e w4 ⟨rfl, ew⟩; have ew2 := ew.symm; clear ew; subst ew2))
      go_roundg g
      case measure => omega
      case rel => exact ⟨j + 1, by omega, by go_num, HN2.out, HBr.out⟩
  | zero =>
  have hjl : j = lu := by omega
  have k1 : ¬ ((j : Int) < (lu : Int)) := by omega
  have HUS : Hid (∀ (k : Nat) (x : Int), U[k]? = some x → 0 ≤ x ∧ x < (fn : Int)) := fun k x hx => of_decide_eq_true (HCO.out k x (by have := (List.getElem?_eq_some_iff.1 hx).1; have := HLN.out.2.1; omega) hx)
  have HV5 : Hid (usH U (fsts FL).length = true) := allT fun k x hx => decide_eq_true (by rw [show (fsts FL).length = fn by rw [HLN.out.2.2]; simp [fsts]]; exact HUS.out k x hx)
  clear HCO hjl
  have HS5 : Hid (CBlk wr w.heap.size #[.int .i64 (n : Int), .slice a1 ln cap1, .slice a2 lu cap2] 35) := HS4.out.later HBr.out
  have HA5 : Hid (CBlk wr (w.heap.size + 1) #[.int .i64 0, .int .i64 0, .string ⟨#[]⟩, .string ⟨#[]⟩, .slice none 0 0] 30) := HA4.out.later HBr.out
  have HC5 : Hid (CBlk wr G7 #[.int .i64 ck, .int .i64 cm, .string cs, .string cn, .slice c1 c2 c3, .slice c4 c5 c6, .slice c7 c8 c9] 50) := HC4.out.later HBr.out
  have HW5 : Hid (Below w.heap.size w wr) := below_step HW4.out HBr.out
  clear HS4 HA4 HC4 HW4 HBr
  generalize wr = X5 at *
  obtain ⟨p0, p1, p2⟩ := cthree HS5.out
  obtain ⟨q0, q1, q2, q3, q4, q5, q6⟩ := cseven HC5.out
  have hbz : w.heap.size + 2 ≤ X5.heap.size := HA5.out.lt
  go_upto_region 16 with (go_at_call 24; refine (HIN.out _ HW5.out).mono ?_; rintro e w6 ⟨d, rfl, hdk, hkp, hb⟩; have hok := hkp.ok; obtain ⟨⟨d1, d2, d3, f1⟩, ⟨d4, d6, f2⟩, ⟨d7, d9, f3⟩, -, -⟩ := hok.shape; have HDK : Hid (d.key = mapC (ins V) KC) := hdk; have HKP : Hid (Kp (w.heap.size + 2) w6 d) := hkp.mono hbz; obtain ⟨⟨⟨⟨dk, dm, ds⟩, dn, dl⟩, dx⟩, db, dbv, dt, dtv⟩ := d; simp only at f1 f2 f3; obtain ⟨d5, h5⟩ : ∃ k, db.length = k := ⟨_, rfl⟩; obtain ⟨d8, h8⟩ : ∃ k, dt.length = k := ⟨_, rfl⟩; rw [h5] at f2; rw [h8] at f3; subst f1 f2 f3; have HLD : Hid (db.length = d5 ∧ dt.length = d8) := ⟨h5, h8⟩; have HS6 : Hid (CBlk w6 w.heap.size #[.int .i64 (n : Int), .slice a1 ln cap1, .slice a2 lu cap2] 35) := HS5.out.later hb; have HA6 : Hid (CBlk w6 (w.heap.size + 1) #[.int .i64 0, .int .i64 0, .string ⟨#[]⟩, .string ⟨#[]⟩, .slice none 0 0] 30) := HA5.out.later hb; have HW6 : Hid (Below w.heap.size w w6) := below_step HW5.out hb; clear hb hok hkp hdk h5 h8 p0 p1 p2 q0 q1 q2 q3 q4 q5 q6)
  clear HS5 HA5 HC5 HW5 HIN hbz
  have HSD : Hid (CBlk (w6.alloc (.cells #[.int .i64 dk, .int .i64 dm, .string ds, .string dn, .slice d1 d2 d3, .slice d4 d5 d6, .slice d7 d8 d9] 50)) w.heap.size #[.int .i64 (n : Int), .slice a1 ln cap1, .slice a2 lu cap2] 35) := HS6.out.later (below1 _ _)
  have HAD : Hid (CBlk (w6.alloc (.cells #[.int .i64 dk, .int .i64 dm, .string ds, .string dn, .slice d1 d2 d3, .slice d4 d5 d6, .slice d7 d8 d9] 50)) (w.heap.size + 1) #[.int .i64 0, .int .i64 0, .string ⟨#[]⟩, .string ⟨#[]⟩, .slice none 0 0] 30) := HA6.out.later (below1 _ _)
  have HDD : Hid (CBlk (w6.alloc (.cells #[.int .i64 dk, .int .i64 dm, .string ds, .string dn, .slice d1 d2 d3, .slice d4 d5 d6, .slice d7 d8 d9] 50)) w6.heap.size #[.int .i64 dk, .int .i64 dm, .string ds, .string dn, .slice d1 d2 d3, .slice d4 d5 d6, .slice d7 d8 d9] 50) := CBlk.new _ _ _
  have HWD : Hid (Below w.heap.size w (w6.alloc (.cells #[.int .i64 dk, .int .i64 dm, .string ds, .string dn, .slice d1 d2 d3, .slice d4 d5 d6, .slice d7 d8 d9] 50))) := below_step HW6.out (below1 _ _)
  have HKD : Hid (Kp (w.heap.size + 2) (w6.alloc (.cells #[.int .i64 dk, .int .i64 dm, .string ds, .string dn, .slice d1 d2 d3, .slice d4 d5 d6, .slice d7 d8 d9] 50)) ⟨(⟨⟨dk, dm, ds⟩, dn, dl⟩, .slice d1 d2 d3), db, .slice d4 d5 d6, dt, .slice d7 d8 d9⟩) := HKP.out.later (below1 _ _)
  clear HS6 HA6 HW6 HKP
  revert HSD HAD HDD HWD HKD
  generalize w6.alloc (.cells #[.int .i64 dk, .int .i64 dm, .string ds, .string dn, .slice d1 d2 d3, .slice d4 d5 d6, .slice d7 d8 d9] 50) = XD
  generalize w6.heap.size = GD
  intro HSD HAD HDD HWD HKD
  have HKT : Hid (dt = (mapC (ins V) KC).2.2 ∧ fsts db = (mapC (ins V) KC).2.1 ∧ (⟨⟨dk, dm, ds⟩, dn, dl⟩ : At) = (mapC (ins V) KC).1) := ⟨congrArg (fun k : Ck => k.2.2) HDK.out, congrArg (fun k : Ck => k.2.1) HDK.out, congrArg (fun k : Ck => k.1) HDK.out⟩
  have HET : Hid (Es XD (.slice d7 d8 d9) dt) := HKD.out.ok.t
  have HAB : Hid (As XD (.slice d4 d5 d6) db) := HKD.out.ok.b
  have d8b : d8 < 1000000000000000000 := by obtain ⟨_, _, e, h, _⟩ := HET.out; simp only [Value.slice.injEq] at e; have := HLD.out.2; omega
  have d5b : d5 < 1000000000000000000 := by obtain ⟨_, _, e, h, _⟩ := HAB.out; simp only [Value.slice.injEq] at e; have := HLD.out.1; omega
  obtain ⟨q0, q1, q2, q3, q4, q5, q6⟩ := cseven HDD.out
  clear HDK k1 hj
  go_wp2_with fail
  clear q0 q1 q2 q3 q4 q5 q6
  go_loopg [85] d8 (fun g i wr => ∃ j : Nat, j + g = d8 ∧ i = .int .i64 (j : Int) ∧ (∀ (k : Nat) (x : Te), k < j → dt[k]? = some x → x.holds = true) ∧ Below XD.heap.size XD wr)
  case atStart => exact ⟨0, by omega, rfl, (fun k x hk => absurd hk (by omega)), Below.refl _ _⟩
  case round =>
  obtain ⟨j, hj, rfl, hco, hb⟩ := hrel
  have HCO : Hid (∀ (k : Nat) (x : Te), k < j → dt[k]? = some x → x.holds = true) := hco
  have HBr : Hid (Below XD.heap.size XD wr) := hb
  clear hco hb
  cases gk with
  | succ g =>
    have i1 : (j : Int) < (d8 : Int) := by omega
    have i0 : (0 : Int) ≤ (j : Int) := by omega
    obtain ⟨b1, o1, t, rfl, ht, hb1, e0, e1, e2, e3, e4, e5, e6⟩ := (HET.out.later HBr.out).get_ (j := j) (by omega)
    have HCN : Hid (∀ X : World, Calls Try.prog 25 #[t.v] X fun e w' => e = .returned (.tuple #[.bool t.holds, .bool t.known]) ∧ Below X.heap.size X w') := fun X => decide_any t X
    have HNX : Hid (t.holds = true → ∀ (k : Nat) (x : Te), k < j + 1 → dt[k]? = some x → x.holds = true) := fun h0 k x hk hx => by
      rcases Nat.lt_succ_iff_lt_or_eq.1 hk with hk | rfl
      · exact HCO.out k x hk hx
      · rw [ht] at hx; cases hx; exact h0
    have HNO : Hid (t.holds = false → r = .error 125) := fun h0 => by
      rw [← HR.out]
      refine ruleH_6 HC0.out HV2.out HV3.out HV4.out HV5.out ?_
      rw [← HKT.out.1]
      exact allF ht h0
    obtain ⟨q, hq⟩ : ∃ q, t.holds = q := ⟨_, rfl⟩
    obtain ⟨kn, hkn⟩ : ∃ q, t.known = q := ⟨_, rfl⟩
    rw [hq, hkn] at HCN
    rw [hq] at HNX HNO
    clear ht hq hkn HCO
    obtain ⟨op, ⟨lk, lm, ls⟩, ⟨rk, rm, rs⟩⟩ := t
    simp only at e0 e1 e2 e3 e4 e5 e6
    cases q
    case false =>
      have HE : Hid (r = .error 125) := HNO.out rfl
      go_wp2_with (first
        | (go_at_call 25; refine (HCN.out _).mono ?_; rintro e w3 ⟨rfl, hb⟩; have HB3 : Hid (Below XD.heap.size XD w3) := below_step (below_step HBr.out (below1 _ _)) hb; clear hb)
        | (go_at_call 19; refine (demand_no 125 _).mono ?_; rintro e w4 ⟨rfl, ew⟩; have ew2 := ew.symm; clear ew; subst ew2))
      refine ⟨rfl, ?_⟩
      rw [HE.out]
      exact ⟨below_step HWD.out HB3.out, rfl⟩
    case true =>
      have HN2 : Hid (∀ (k : Nat) (x : Te), k < j + 1 → dt[k]? = some x → x.holds = true) := HNX.out rfl
      go_wp2_with (first
        | (go_at_call 25; refine (HCN.out _).mono ?_; rintro e w3 ⟨rfl, hb⟩; have HB3 : Hid (Below XD.heap.size XD w3) := below_step (below_step HBr.out (below1 _ _)) hb; clear hb)
        | (go_at_call 19; refine (demand_yes 125 _).mono ?_; rintro e w4 ⟨rfl, ew⟩; have ew2 := ew.symm; clear ew; subst ew2))
      go_roundg g
      case measure => omega
      case rel => exact ⟨j + 1, by omega, by go_num, HN2.out, HB3.out⟩
  | zero =>
  have hjl : j = d8 := by omega
  have k1 : ¬ ((j : Int) < (d8 : Int)) := by omega
  have HV6 : Hid ((mapC (ins V) KC).2.2.all Te.holds = true) := by
    show _ = _
    rw [← HKT.out.1]
    exact allT fun k x hx => HCO.out k x (by have := (List.getElem?_eq_some_iff.1 hx).1; have := HLD.out.2; omega) hx
  clear HCO hjl HET
  have HSE : Hid (CBlk wr w.heap.size #[.int .i64 (n : Int), .slice a1 ln cap1, .slice a2 lu cap2] 35) := HSD.out.later HBr.out
  have HAE : Hid (CBlk wr (w.heap.size + 1) #[.int .i64 0, .int .i64 0, .string ⟨#[]⟩, .string ⟨#[]⟩, .slice none 0 0] 30) := HAD.out.later HBr.out
  have HDE : Hid (CBlk wr GD #[.int .i64 dk, .int .i64 dm, .string ds, .string dn, .slice d1 d2 d3, .slice d4 d5 d6, .slice d7 d8 d9] 50) := HDD.out.later HBr.out
  have HWE : Hid (Below w.heap.size w wr) := below_step HWD.out HBr.out
  have HKE : Hid (Kp (w.heap.size + 2) wr ⟨(⟨⟨dk, dm, ds⟩, dn, dl⟩, .slice d1 d2 d3), db, .slice d4 d5 d6, dt, .slice d7 d8 d9⟩) := HKD.out.later HBr.out
  clear HSD HAD HDD HWD HKD HBr HAB
  generalize wr = XE at *
  have HAB : Hid (As XE (.slice d4 d5 d6) db) := HKE.out.ok.b
  have HWD : Hid (Below w.heap.size w XE) := HWE.out
  obtain ⟨q0, q1, q2, q3, q4, q5, q6⟩ := cseven HDE.out
  clear hj
  go_wp2_with fail
  clear q0 q1 q2 q3 q4 q5 q6 k1
  go_loopg [100] d5 (fun g i wr => ∃ j : Nat, j + g = d5 ∧ i = .int .i64 (j : Int) ∧ (∀ k : Nat, k < j → fitH (mapC (ins V) KC).2.1 U (fsts FL) k = true) ∧ Below XE.heap.size XE wr)
  case atStart => exact ⟨0, by omega, rfl, (fun k hk => absurd hk (by omega)), Below.refl _ _⟩
  case round =>
  obtain ⟨j, hj, rfl, hco, hb⟩ := hrel
  have HCO : Hid (∀ k : Nat, k < j → fitH (mapC (ins V) KC).2.1 U (fsts FL) k = true) := hco
  have HBr : Hid (Below XE.heap.size XE wr) := hb
  clear hco hb
  cases gk with
  | succ g =>
    have i1 : (j : Int) < (d5 : Int) := by omega
    have i0 : (0 : Int) ≤ (j : Int) := by omega
    obtain ⟨b1, o1, x, rfl, hx, hb1, ⟨e0, e1, e2, e3, e4⟩, hxt⟩ := (HAB.out.later HBr.out).get_ (j := j) (by omega)
    have hbl : d5 = lu := by
      have h1 := congrArg List.length HKT.out.2.1
      simp only [fsts, mapC, List.length_map] at h1
      have h2 := HV4.out
      have h3 := HLD.out.1
      have h4 := HLN.out.2.1
      omega
    obtain ⟨u, hu⟩ : ∃ u, U[j]? = some u := ⟨_, List.getElem?_eq_getElem (by have := HLN.out.2.1; omega)⟩
    obtain ⟨hu0, hu1⟩ := HUS.out j u hu
    obtain ⟨m, rfl⟩ := Int.eq_ofNat_of_zero_le hu0
    have hm : m < fn := by omega
    obtain ⟨ub, uo, rfl, hub, eu⟩ := (HNS.out.later (below_step HWE.out HBr.out)).cel hu
    obtain ⟨fb, fo, f, rfl, hf, hfb, hfe, hft⟩ := (HFL.out.later (below_step HWE.out HBr.out)).get_ (j := m) (by omega)
    have hfit : fitH (mapC (ins V) KC).2.1 U (fsts FL) j = decide (x.1 = f.1) := by
      unfold fitH
      rw [← HKT.out.2.1, hu]
      simp only [fsts, List.getElem?_map, hx, Option.map_some, Option.bind_some, Int.toNat_natCast, hf]
      simp
    have HSA0 := fun (Y : World) (hY : Below wr.heap.size wr Y) => hsame_any x.1 f.1 x.2 f.2 Y (hxt.later hY) (hft.later hY)
    have HNX0 : Hid (decide (x.1 = f.1) = true → ∀ k : Nat, k < j + 1 → fitH (mapC (ins V) KC).2.1 U (fsts FL) k = true) := fun h0 k hk => by
      rcases Nat.lt_succ_iff_lt_or_eq.1 hk with hk | rfl
      · exact HCO.out k hk
      · rw [hfit]; exact h0
    have HNO : Hid (decide (x.1 = f.1) = false → r = .error 126) := fun h0 => by
      rw [← HR.out]
      refine ruleH_7 HC0.out HV2.out HV3.out HV4.out HV5.out HV6.out ?_
      refine allF (j := j) (x := j) ?_ (by rw [hfit]; exact h0)
      have hl : j < (mapC (ins V) KC).2.1.length := by rw [← HKT.out.2.1]; simp only [fsts, List.length_map]; have := HLD.out.1; omega
      rw [List.getElem?_range hl]
    obtain ⟨q, hq⟩ : ∃ q, decide (x.1 = f.1) = q := ⟨_, rfl⟩
    rw [hq] at HNX0 HNO
    obtain ⟨x1, x3, ex⟩ := hxt.sl
    obtain ⟨f1, f3, ef⟩ := hft.sl
    clear hx hu hf hfit HCO
    obtain ⟨⟨⟨xk, xm, xs⟩, xn, xl⟩, xv⟩ := x
    obtain ⟨⟨⟨fk, fm, fs⟩, fnm, fl⟩, fv⟩ := f
    simp only at e0 e1 e2 e3 e4 hfe ex ef HSA0 hq hxt hft
    obtain ⟨x2, hx2⟩ : ∃ k, k = xl.length := ⟨_, rfl⟩
    obtain ⟨f2, hf2⟩ : ∃ k, k = fl.length := ⟨_, rfl⟩
    rw [← hx2] at ex
    rw [← hf2] at ef
    subst ex ef
    rw [hq] at HSA0
    have HSA1 : Hid (∀ Y : World, Below wr.heap.size wr Y → Calls Try.prog 11 #[.agg #[.int .i64 xk, .int .i64 xm, .string xs, .string xn, .slice x1 x2 x3], .agg #[.int .i64 fk, .int .i64 fm, .string fs, .string fnm, .slice f1 f2 f3]] Y fun e w' => e = .returned (.bool q) ∧ Below Y.heap.size Y w') := HSA0
    have HXB : Hid (CBlk (wr.alloc (.cells #[.int .i64 xk, .int .i64 xm, .string xs, .string xn, .slice x1 x2 x3] 30)) wr.heap.size #[.int .i64 xk, .int .i64 xm, .string xs, .string xn, .slice x1 x2 x3] 30) := CBlk.new _ _ _
    have HYB : Hid (Below wr.heap.size wr (wr.alloc (.cells #[.int .i64 xk, .int .i64 xm, .string xs, .string xn, .slice x1 x2 x3] 30))) := below1 _ _
    have HUW : Hid (ub < wr.heap.size ∧ wr.cell? ⟨ub, uo + j, none⟩ = some (.int .i64 (m : Int))) := ⟨hub, eu⟩
    have HFW : Hid (fb < wr.heap.size ∧ wr.cell? ⟨fb, fo + m * 5, none⟩ = some (.int .i64 fk) ∧ wr.cell? ⟨fb, fo + m * 5 + 1, none⟩ = some (.int .i64 fm) ∧ wr.cell? ⟨fb, fo + m * 5 + 2, none⟩ = some (.string fs) ∧ wr.cell? ⟨fb, fo + m * 5 + 3, none⟩ = some (.string fnm) ∧ wr.cell? ⟨fb, fo + m * 5 + 4, none⟩ = some (.slice f1 f2 f3)) := ⟨hfb, hfe⟩
    have HSW : Hid (CBlk wr w.heap.size #[.int .i64 (n : Int), .slice a1 ln cap1, .slice (some ⟨ub, uo, none⟩) lu cap2] 35) := HSE.out.later HBr.out
    have j2 : (j : Int) < (lu : Int) := by omega
    have m0 : (0 : Int) ≤ (m : Int) := by omega
    have m1 : (m : Int) < (fn : Int) := by omega
    clear HSA0 hxt hft hfe hfb hub eu hq hx2 hf2 hu0 hu1 hm hbl
    go_upto_region 25 with fail
    clear e0 e1 e2 e3 e4
    revert HXB HYB
    generalize wr.alloc (.cells #[.int .i64 xk, .int .i64 xm, .string xs, .string xn, .slice x1 x2 x3] 30) = Y
    generalize hgx : wr.heap.size = GX
    intro HXB HYB
    rw [← hgx] at HYB
    have HSA : Hid (∀ Z : World, Below Y.heap.size Y Z → Calls Try.prog 11 #[.agg #[.int .i64 xk, .int .i64 xm, .string xs, .string xn, .slice x1 x2 x3], .agg #[.int .i64 fk, .int .i64 fm, .string fs, .string fnm, .slice f1 f2 f3]] Z fun e w' => e = .returned (.bool q) ∧ Below Z.heap.size Z w') := fun Z hZ => HSA1.out Z (below_step HYB.out hZ)
    have HUC : Hid (ub < Y.heap.size ∧ Y.cell? ⟨ub, uo + j, none⟩ = some (.int .i64 (m : Int))) := ⟨Nat.lt_of_lt_of_le HUW.out.1 HYB.out.size, cell_step HYB.out HUW.out.1 HUW.out.2⟩
    have HFC : Hid (fb < Y.heap.size ∧ Y.cell? ⟨fb, fo + m * 5, none⟩ = some (.int .i64 fk) ∧ Y.cell? ⟨fb, fo + m * 5 + 1, none⟩ = some (.int .i64 fm) ∧ Y.cell? ⟨fb, fo + m * 5 + 2, none⟩ = some (.string fs) ∧ Y.cell? ⟨fb, fo + m * 5 + 3, none⟩ = some (.string fnm) ∧ Y.cell? ⟨fb, fo + m * 5 + 4, none⟩ = some (.slice f1 f2 f3)) := by
      obtain ⟨z, q0, q1, q2, q3, q4⟩ := HFW.out
      have hY := HYB.out
      exact ⟨Nat.lt_of_lt_of_le z hY.size, cell_step hY z q0, cell_step hY z q1, cell_step hY z q2, cell_step hY z q3, cell_step hY z q4⟩
    have HSY : Hid (CBlk Y w.heap.size #[.int .i64 (n : Int), .slice a1 ln cap1, .slice (some ⟨ub, uo, none⟩) lu cap2] 35) := HSW.out.later HYB.out
    clear HSA1 HUW HFW HSW hgx
    cases q
    case false =>
      have HE : Hid (r = .error 126) := HNO.out rfl
      clear HNX0 HNO
      refine wp_region_held_drew (S := fun w' => Below Y.heap.size Y w') (by kernel_rfl) (Below.refl _ _).drew (fun hH => ?_)
      revert hH
      generalize Y.drew = W9
      intro hH
      refine wpAnyH_take (i := 0) (oi := ⟨_, _, _, _, _, _⟩) (v := .agg #[.int .i64 xk, .int .i64 xm, .string xs, .string xn, .slice x1 x2 x3]) rfl (by kernel_rfl) (by kernel_rfl) (by kernel_rfl) (fun _ _ _ h => h) (Or.inl ⟨by rfl, fun w' h => by obtain ⟨q0, q1, q2, q3, q4⟩ := cfive (HXB.out.later h); clear h; go_simp⟩) hH ?_
      simp only [Act.put, List.setIfInBounds_toArray, List.set_cons_zero, List.set_cons_succ]
      refine wpAnyH_take (i := 1) (oi := ⟨_, _, _, _, _, _⟩) (v := .slice (some ⟨fb, fo, none⟩) fn fc) rfl (by kernel_rfl) (by kernel_rfl) (by kernel_rfl) (fun _ _ _ h => h) (Or.inl ⟨by rfl, fun w' _ => by go_simp⟩) hH ?_
      simp only [Act.put, List.setIfInBounds_toArray, List.set_cons_zero, List.set_cons_succ]
      refine wpAnyH_take (i := 2) (oi := ⟨_, _, _, _, _, _⟩) (v := .pointer (some ⟨w.heap.size, 2, none⟩)) rfl (by kernel_rfl) (by kernel_rfl) (by kernel_rfl) (fun _ _ _ h => h) (Or.inl ⟨by rfl, fun w' _ => by go_simp⟩) hH ?_
      simp only [Act.put, List.setIfInBounds_toArray, List.set_cons_zero, List.set_cons_succ]
      refine wpAnyH_take (i := 3) (oi := ⟨_, _, _, _, _, _⟩) (v := .slice (some ⟨ub, uo, none⟩) lu cap2) rfl (by kernel_rfl) (by kernel_rfl) (by kernel_rfl) (fun _ _ _ h => h) (Or.inl ⟨by rfl, fun w' h => by obtain ⟨q0, q1, q2⟩ := cthree (HSY.out.later h); clear h; go_simp⟩) hH ?_
      simp only [Act.put, List.setIfInBounds_toArray, List.set_cons_zero, List.set_cons_succ]
      refine wpAnyH_take (i := 4) (oi := ⟨_, _, _, _, _, _⟩) (v := .int .i64 (j : Int)) rfl (by kernel_rfl) (by kernel_rfl) (by kernel_rfl) (fun _ _ _ h => h) (Or.inl ⟨by rfl, fun w' _ => by go_simp⟩) hH ?_
      simp only [Act.put, List.setIfInBounds_toArray, List.set_cons_zero, List.set_cons_succ]
      refine wpAnyH_take (i := 5) (oi := ⟨_, _, _, _, _, _⟩) (v := .pointer (some ⟨ub, uo + j, none⟩)) rfl (by kernel_rfl) (by kernel_rfl) (by kernel_rfl) (fun _ _ _ h => h) (Or.inl ⟨by rfl, fun w' _ => by go_simp⟩) hH ?_
      simp only [Act.put, List.setIfInBounds_toArray, List.set_cons_zero, List.set_cons_succ]
      refine wpAnyH_take (i := 6) (oi := ⟨_, _, _, _, _, _⟩) (v := .int .i64 (m : Int)) rfl (by kernel_rfl) (by kernel_rfl) (by kernel_rfl) (fun _ _ _ h => h) (Or.inl ⟨by rfl, fun w' h => by have y1 := cell_step h HUC.out.1 HUC.out.2; clear h; go_simp⟩) hH ?_
      simp only [Act.put, List.setIfInBounds_toArray, List.set_cons_zero, List.set_cons_succ]
      refine wpAnyH_take (i := 7) (oi := ⟨_, _, _, _, _, _⟩) (v := .pointer (some ⟨fb, fo + m * 5, none⟩)) rfl (by kernel_rfl) (by kernel_rfl) (by kernel_rfl) (fun _ _ _ h => h) (Or.inl ⟨by rfl, fun w' _ => by go_simp⟩) hH ?_
      simp only [Act.put, List.setIfInBounds_toArray, List.set_cons_zero, List.set_cons_succ]
      refine wpAnyH_take (i := 8) (oi := ⟨_, _, _, _, _, _⟩) (v := .agg #[.int .i64 fk, .int .i64 fm, .string fs, .string fnm, .slice f1 f2 f3]) rfl (by kernel_rfl) (by kernel_rfl) (by kernel_rfl) (fun _ _ _ h => h) (Or.inl ⟨by rfl, fun w' h => by obtain ⟨z, q0, q1, q2, q3, q4⟩ := HFC.out; have y0 := cell_step h z q0; have y1 := cell_step h z q1; have y2 := cell_step h z q2; have y3 := cell_step h z q3; have y4 := cell_step h z q4; clear q0 q1 q2 q3 q4; go_simp⟩) hH ?_
      simp only [Act.put, List.setIfInBounds_toArray, List.set_cons_zero, List.set_cons_succ]
      refine wpAnyH_ready (rs := [9]) (by kernel_rfl) (by simp) ?_
      refine (AllReadyH.cons (o := ⟨_, _, _, _, _, _⟩) rfl (fun K hK => ?_) AllReadyH.nil)
      go_simp
      refine (HSA.out _ hH).mono ?_
      rintro e V1 ⟨rfl, hb⟩
      refine hK.out _ _ (below_step hH hb) (fun hH => ?_)
      clear hK K
      clear hb
      refine wpAnyH_ready (rs := [10]) (by kernel_rfl) (by simp) ?_
      refine (AllReadyH.cons (o := ⟨_, _, _, _, _, _⟩) rfl (fun K hK => ?_) AllReadyH.nil)
      go_simp
      refine (demand_no 126 _).mono ?_
      rintro e V2 ⟨rfl, ew⟩
      have ew2 := ew.symm
      clear ew
      subst ew2
      refine ⟨rfl, ?_⟩
      rw [HE.out]
      exact ⟨below_step (below_step (below_step HWD.out HBr.out) HYB.out) hH, rfl⟩
    case true =>
      have HNX : Hid (∀ k : Nat, k < j + 1 → fitH (mapC (ins V) KC).2.1 U (fsts FL) k = true) := HNX0.out rfl
      clear HNX0 HNO
      refine wp_region_held_drew (S := fun w' => Below Y.heap.size Y w') (by kernel_rfl) (Below.refl _ _).drew (fun hH => ?_)
      revert hH
      generalize Y.drew = W9
      intro hH
      refine wpAnyH_take (i := 0) (oi := ⟨_, _, _, _, _, _⟩) (v := .agg #[.int .i64 xk, .int .i64 xm, .string xs, .string xn, .slice x1 x2 x3]) rfl (by kernel_rfl) (by kernel_rfl) (by kernel_rfl) (fun _ _ _ h => h) (Or.inl ⟨by rfl, fun w' h => by obtain ⟨q0, q1, q2, q3, q4⟩ := cfive (HXB.out.later h); clear h; go_simp⟩) hH ?_
      simp only [Act.put, List.setIfInBounds_toArray, List.set_cons_zero, List.set_cons_succ]
      refine wpAnyH_take (i := 1) (oi := ⟨_, _, _, _, _, _⟩) (v := .slice (some ⟨fb, fo, none⟩) fn fc) rfl (by kernel_rfl) (by kernel_rfl) (by kernel_rfl) (fun _ _ _ h => h) (Or.inl ⟨by rfl, fun w' _ => by go_simp⟩) hH ?_
      simp only [Act.put, List.setIfInBounds_toArray, List.set_cons_zero, List.set_cons_succ]
      refine wpAnyH_take (i := 2) (oi := ⟨_, _, _, _, _, _⟩) (v := .pointer (some ⟨w.heap.size, 2, none⟩)) rfl (by kernel_rfl) (by kernel_rfl) (by kernel_rfl) (fun _ _ _ h => h) (Or.inl ⟨by rfl, fun w' _ => by go_simp⟩) hH ?_
      simp only [Act.put, List.setIfInBounds_toArray, List.set_cons_zero, List.set_cons_succ]
      refine wpAnyH_take (i := 3) (oi := ⟨_, _, _, _, _, _⟩) (v := .slice (some ⟨ub, uo, none⟩) lu cap2) rfl (by kernel_rfl) (by kernel_rfl) (by kernel_rfl) (fun _ _ _ h => h) (Or.inl ⟨by rfl, fun w' h => by obtain ⟨q0, q1, q2⟩ := cthree (HSY.out.later h); clear h; go_simp⟩) hH ?_
      simp only [Act.put, List.setIfInBounds_toArray, List.set_cons_zero, List.set_cons_succ]
      refine wpAnyH_take (i := 4) (oi := ⟨_, _, _, _, _, _⟩) (v := .int .i64 (j : Int)) rfl (by kernel_rfl) (by kernel_rfl) (by kernel_rfl) (fun _ _ _ h => h) (Or.inl ⟨by rfl, fun w' _ => by go_simp⟩) hH ?_
      simp only [Act.put, List.setIfInBounds_toArray, List.set_cons_zero, List.set_cons_succ]
      refine wpAnyH_take (i := 5) (oi := ⟨_, _, _, _, _, _⟩) (v := .pointer (some ⟨ub, uo + j, none⟩)) rfl (by kernel_rfl) (by kernel_rfl) (by kernel_rfl) (fun _ _ _ h => h) (Or.inl ⟨by rfl, fun w' _ => by go_simp⟩) hH ?_
      simp only [Act.put, List.setIfInBounds_toArray, List.set_cons_zero, List.set_cons_succ]
      refine wpAnyH_take (i := 6) (oi := ⟨_, _, _, _, _, _⟩) (v := .int .i64 (m : Int)) rfl (by kernel_rfl) (by kernel_rfl) (by kernel_rfl) (fun _ _ _ h => h) (Or.inl ⟨by rfl, fun w' h => by have y1 := cell_step h HUC.out.1 HUC.out.2; clear h; go_simp⟩) hH ?_
      simp only [Act.put, List.setIfInBounds_toArray, List.set_cons_zero, List.set_cons_succ]
      refine wpAnyH_take (i := 7) (oi := ⟨_, _, _, _, _, _⟩) (v := .pointer (some ⟨fb, fo + m * 5, none⟩)) rfl (by kernel_rfl) (by kernel_rfl) (by kernel_rfl) (fun _ _ _ h => h) (Or.inl ⟨by rfl, fun w' _ => by go_simp⟩) hH ?_
      simp only [Act.put, List.setIfInBounds_toArray, List.set_cons_zero, List.set_cons_succ]
      refine wpAnyH_take (i := 8) (oi := ⟨_, _, _, _, _, _⟩) (v := .agg #[.int .i64 fk, .int .i64 fm, .string fs, .string fnm, .slice f1 f2 f3]) rfl (by kernel_rfl) (by kernel_rfl) (by kernel_rfl) (fun _ _ _ h => h) (Or.inl ⟨by rfl, fun w' h => by obtain ⟨z, q0, q1, q2, q3, q4⟩ := HFC.out; have y0 := cell_step h z q0; have y1 := cell_step h z q1; have y2 := cell_step h z q2; have y3 := cell_step h z q3; have y4 := cell_step h z q4; clear q0 q1 q2 q3 q4; go_simp⟩) hH ?_
      simp only [Act.put, List.setIfInBounds_toArray, List.set_cons_zero, List.set_cons_succ]
      refine wpAnyH_ready (rs := [9]) (by kernel_rfl) (by simp) ?_
      refine (AllReadyH.cons (o := ⟨_, _, _, _, _, _⟩) rfl (fun K hK => ?_) AllReadyH.nil)
      go_simp
      refine (HSA.out _ hH).mono ?_
      rintro e V1 ⟨rfl, hb⟩
      refine hK.out _ _ (below_step hH hb) (fun hH => ?_)
      clear hK K
      clear hb
      refine wpAnyH_ready (rs := [10]) (by kernel_rfl) (by simp) ?_
      refine (AllReadyH.cons (o := ⟨_, _, _, _, _, _⟩) rfl (fun K hK => ?_) AllReadyH.nil)
      go_simp
      refine (demand_yes 126 _).mono ?_
      rintro e V2 ⟨rfl, ew⟩
      have ew2 := ew.symm
      clear ew
      subst ew2
      refine hK.out _ _ hH (fun hH => ?_)
      clear hK K
      refine wpAnyH_done (by kernel_rfl) ?_ _
      have HV : Hid (Below Y.heap.size Y V1) := hH
      clear hH
      go_wp2
      go_roundg g
      case measure => omega
      case rel => exact ⟨j + 1, by omega, by go_num, HNX.out, below_step (below_step HBr.out HYB.out) HV.out⟩
  | zero =>
  have hjl : j = d5 := by omega
  have k1 : ¬ ((j : Int) < (d5 : Int)) := by omega
  have HE : Hid (r = .ok ⟨⟨dk, dm, ds⟩, dn, dl⟩) := by
    show r = _
    rw [← HR.out, HKT.out.2.2]
    refine ruleH_8 HC0.out HV2.out HV3.out HV4.out HV5.out HV6.out ?_
    rw [List.all_eq_true]
    intro k hk
    refine HCO.out k ?_
    rw [List.mem_range, ← HKT.out.2.1] at hk
    simp only [fsts, List.length_map] at hk
    have := HLD.out.1
    omega
  have HDZ : Hid (CBlk wr GD #[.int .i64 dk, .int .i64 dm, .string ds, .string dn, .slice d1 d2 d3, .slice d4 d5 d6, .slice d7 d8 d9] 50) := HDE.out.later HBr.out
  have HAZ : Hid (CBlk wr (w.heap.size + 1) #[.int .i64 0, .int .i64 0, .string ⟨#[]⟩, .string ⟨#[]⟩, .slice none 0 0] 30) := HAE.out.later HBr.out
  have HKZ : Hid (Kp (w.heap.size + 2) wr ⟨(⟨⟨dk, dm, ds⟩, dn, dl⟩, .slice d1 d2 d3), db, .slice d4 d5 d6, dt, .slice d7 d8 d9⟩) := HKE.out.later HBr.out
  have HWZ : Hid (Below w.heap.size w wr) := below_step HWE.out HBr.out
  clear HCO hjl HSE HAE HDE HWE HKE HBr HAB HWD
  obtain ⟨q0, q1, q2, q3, q4, q5, q6⟩ := cseven HDZ.out
  obtain ⟨p0, p1, p2, p3, p4⟩ := cfive HAZ.out
  have s0 : wr.frozen? ⟨w.heap.size + 1, 0, none⟩ = false := HAZ.out.froz
  have s1 : wr.frozen? ⟨w.heap.size + 1, 1, none⟩ = false := HAZ.out.froz
  have s2 : wr.frozen? ⟨w.heap.size + 1, 2, none⟩ = false := HAZ.out.froz
  have s3 : wr.frozen? ⟨w.heap.size + 1, 3, none⟩ = false := HAZ.out.froz
  have s4 : wr.frozen? ⟨w.heap.size + 1, 4, none⟩ = false := HAZ.out.froz
  go_wp2_with fail
  have hG : w.heap.size + 1 < w.heap.size + 2 := by omega
  have hN : w.heap.size ≤ w.heap.size + 1 := by omega
  refine bodyPost_ret (v := At.v ⟨⟨dk, dm, ds⟩, dn, dl⟩ (.slice d1 d2 d3)) (by simp [results, Try.results15, go_sem, p0, p1, p2, p3, p4]) rfl ⟨((((HWZ.out.setCell hN _).setCell hN _).setCell hN _).setCell hN _).setCell hN _, ?_⟩
  rw [HE.out]
  refine ⟨_, rfl, fun X' h1 h2 => ?_⟩
  exact (((((((HKZ.out.off hG).off hG).off hG).off hG).off hG).mono (show w.heap.size ≤ w.heap.size + 2 by omega)) X' h1 h2).h
end Go.Proofs.Ytbhdalchnbfohaa
