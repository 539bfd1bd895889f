import Derived.Test.YtcejljehjhlonaaGreatDoorB5
import Derived.Test.YtcejljehjhlonaaGreatDoorHC2
import Derived.Test.YtcejljehjhlonaaGreatDoorRC2
import Derived.Test.YtcejljehjhlonaaGreatDoorV2
import Derived.Test.YtcejljehjhlonaaGreatDoorT4
import Derived.Test.YtcejljehjhlonaaGreatDoorSD10
import Derived.Test.YtcejljehjhlonaaGreatDoorSD12
import Derived.Test.YtcejljehjhlonaaGreatDoorO2
import Derived.Deep.RegionHeld3
import Derived.BigQuiet
namespace Go.Proofs.YtcejljehjhlonaaGreatDoor
open Go.RowKit
attribute [local go_sem ↓] Go.wp_at_zero Go.wp_at_succ

def szA (a : At) : Prop := (∀ t ∈ a.pl, t.s.size <= maxLen) /\ a.name.size <= maxLen
def szK (x : Ck) : Prop := szA x.1 /\ (∀ a ∈ x.2.1, szA a) /\ ∀ t ∈ x.2.2, t.l.s.size <= maxLen /\ t.r.s.size <= maxLen
theorem szK_of {c : Cm} (h : c.szs) : szK c.key := by
 obtain ⟨h1, h2, h3⟩ := h
 refine ⟨⟨h1.2, h1.1⟩, fun a ha => ?_, fun t ht => h3 t ht⟩
 obtain ⟨x, hx, rfl⟩ := List.mem_map.1 ha
 exact ⟨(h2 x hx).2, (h2 x hx).1⟩
theorem con_sz {t : Tm} (h : t.con = true) : t.s.size <= maxLen := by
 unfold Tm.con at h
 rcases of_decide_eq_true h with ⟨-, h⟩ | ⟨-, -, h⟩
 ·rw [h]; exact Nat.zero_le _
 ·unfold maxLen; omega
theorem ins_sz {V : List Tm} {t : Tm} (hV : ∀ t ∈ V, t.s.size <= maxLen) (h : t.s.size <= maxLen) : (ins V t).s.size <= maxLen := by
 unfold ins
 split
 ·cases hx : V[t.n.toNat]? with
  | none => exact h
  | some u => exact hV u (List.mem_of_getElem? hx)
 ·exact h
theorem szA_ins {V : List Tm} {a : At} (hV : ∀ t ∈ V, t.s.size <= maxLen) (h : szA a) : szA (mapA (ins V) a) := by
 refine ⟨fun t ht => ?_, h.2⟩
 have ht : t ∈ ins V a.by_ :: a.args.map (ins V) := ht
 rcases List.mem_cons.1 ht with rfl | ht
 ·exact ins_sz hV (h.1 _ (List.mem_cons_self ..))
 ·obtain ⟨u, hu, rfl⟩ := List.mem_map.1 ht
  exact ins_sz hV (h.1 _ (List.mem_cons_of_mem _ hu))
theorem szK_ins {V : List Tm} {x : Ck} (hV : ∀ t ∈ V, t.s.size <= maxLen) (h : szK x) : szK (mapC (ins V) x) := by
 refine ⟨szA_ins hV h.1, fun a ha => ?_, fun t ht => ?_⟩
 ·obtain ⟨b, hb, rfl⟩ := List.mem_map.1 ha
  exact szA_ins hV (h.2.1 b hb)
 ·obtain ⟨b, hb, rfl⟩ := List.mem_map.1 ht
  exact ⟨ins_sz hV (h.2.2 b hb).1, ins_sz hV (h.2.2 b hb).2⟩
theorem ruleH_sz {c : Ck} {V : List Tm} {U : List Int} {F : List At} {a : At} (hc : szK c) (h : ruleH c V U F = .ok a) : szA a := by
 unfold ruleH at h
 by_cases h1 : chkH c ≠ 0
 ·rw [if_pos h1] at h; cases h
 rw [if_neg h1] at h
 by_cases h2 : V.length ≠ nvH c
 ·rw [if_pos h2] at h; cases h
 rw [if_neg h2] at h
 by_cases h3 : V.all Tm.con = false
 ·rw [if_pos h3] at h; cases h
 rw [if_neg h3] at h
 by_cases h4 : U.length ≠ c.2.1.length
 ·rw [if_pos h4] at h; cases h
 rw [if_neg h4] at h
 by_cases h5 : usH U F.length = false
 ·rw [if_pos h5] at h; cases h
 rw [if_neg h5] at h
 by_cases h6 : (mapC (ins V) c).2.2.all Te.holds = false
 ·rw [if_pos h6] at h; cases h
 rw [if_neg h6] at h
 by_cases h7 : (List.range (mapC (ins V) c).2.1.length).all (fitH (mapC (ins V) c).2.1 U F) = false
 ·rw [if_pos h7] at h; cases h
 rw [if_neg h7] at h
 cases h
 exact (szK_ins (fun t ht => con_sz (List.all_eq_true.1 (by simpa using h3) t ht)) hc).1
theorem stepH_sz {R : List Ck} {s : Sk} {F : List At} {a : At} (hR : ∀ c ∈ R, szK c) (h : stepH R s F = .ok a) : szA a := by
 unfold stepH at h
 by_cases h0 : 0 <= s.1
 ·rw [if_pos h0] at h
  cases hc : R[s.1.toNat]? with
  | none => rw [hc] at h; cases h
  | some c => rw [hc] at h; exact ruleH_sz (hR c (List.mem_of_getElem? hc)) h
 ·rw [if_neg h0] at h; cases h
theorem atc_zero {p a : At} : p.cmp a = 0 ↔ p = a := ⟨fun h => ord_at.zero _ _ h, fun h => by rw [h]; exact ord_at.refl _⟩
theorem rsameH_any (p a : At) (x y : Value) (w : World) (hx : Ts w x p.args) (hy : Ts w y a.args) (hp : szA p) (ha : szA a) :
  Calls Tryz.prog 30 #[p.v x, a.v y] w fun e w' => e = .returned (.bool (decide (p = a))) /\ Below w.heap.size w w' := by
 have HC : Hid (∀ X : World, Below w.heap.size w X -> Calls Tryz.prog 52 #[p.v x, a.v y] X fun e w' => e = .returned (.int .i64 (p.cmp a)) /\ Below X.heap.size X w') := fun X hX => rcmpA_any p a x y X (hx.later hX) (hy.later hX) hp.1 ha.1 hp.2 ha.2
 obtain ⟨a1, b1, rfl⟩ := hx.sl
 obtain ⟨a2, b2, rfl⟩ := hy.sl
 obtain ⟨c, hc⟩ : ∃ c, p.cmp a = c := ⟨_, rfl⟩
 obtain ⟨q, hq⟩ : ∃ q, decide (p = a) = q := ⟨_, rfl⟩
 have hcq : (c == 0) = q := by
  rw [<- hq, <- hc, Bool.eq_iff_iff]
  simp only [beq_iff_eq, decide_eq_true_eq]
  exact atc_zero
 rw [hc] at HC
 rw [hq]
 clear hx hy hp ha hc hq
 obtain ⟨⟨k, n, s⟩, nm, l⟩ := p
 obtain ⟨⟨k', n', s'⟩, nm', l'⟩ := a
 simp only
 generalize l.length = ll at HC ⊢
 generalize l'.length = ll' at HC ⊢
 have HC : Hid (∀ X : World, Below w.heap.size w X -> Calls Tryz.prog 52 #[.agg #[.int .i64 k, .int .i64 n, .string s, .string nm, .slice a1 ll b1], .agg #[.int .i64 k', .int .i64 n', .string s', .string nm', .slice a2 ll' b2]] X fun e w' => e = .returned (.int .i64 c) /\ Below X.heap.size X w') := HC
 have HCQ : Hid ((c == 0) = q) := hcq
 cases q
 ·have h1 : (c == 0) = false := hcq
  clear hcq HCQ
  go_enter Tryz.func30, Tryz.ntmps30
  go_wp2_with (go_at_call 52; refine (HC.out _ (below2 _ _ _)).mono ?_; rintro e w1 ⟨rfl, hb⟩)
  go_ret
  exact ⟨rfl, below_step (below2 _ _ _) hb⟩
 ·have h1 : (c == 0) = true := hcq
  clear hcq HCQ
  go_enter Tryz.func30, Tryz.ntmps30
  go_wp2_with (go_at_call 52; refine (HC.out _ (below2 _ _ _)).mono ?_; rintro e w1 ⟨rfl, hb⟩)
  go_ret
  exact ⟨rfl, below_step (below2 _ _ _) hb⟩
set_option maxHeartbeats 800000 in
theorem rconsts_any (l : List Tm) (v : Value) (w : World) (h : Ts w v l) :
  Calls Tryz.prog 41 #[v] w fun e w' => e = .returned (.bool (l.all Tm.con)) /\ Below w.heap.size w w' := by
 have HT : Hid (Ts w v l) := h
 have hlb : l.length < 1000000000000000000 := by obtain ⟨_, _, _, h, _⟩ := h; exact h
 obtain ⟨a, cap, rfl⟩ := h.sl
 obtain ⟨n, hn⟩ : ∃ n, n = l.length := ⟨_, rfl⟩
 rw [<- hn] at HT hlb ⊢
 have HN : Hid (n = l.length) := hn
 obtain ⟨r, hr⟩ : ∃ r, l.all Tm.con = r := ⟨_, rfl⟩
 rw [hr]
 have HR : Hid (l.all Tm.con = r) := hr
 clear h hn hr
 go_enter Tryz.func41, Tryz.ntmps41
 go_wp2
 go_loopg [3] n (fun g i wr => ∃ j : Nat, j + g = n /\ i = .int .i64 (j : Int) /\ (∀ (k : Nat) (x : Tm), k < j -> l[k]? = some x -> x.con = true) /\ Below w.heap.size w wr)
 case atStart => exact ⟨0, by omega, rfl, (fun k x hk => absurd hk (by omega)), Below.refl _ _⟩
 case round =>
 obtain ⟨j, hj, rfl, hco, hb⟩ := hrel
 have HCO : Hid (∀ (k : Nat) (x : Tm), k < j -> l[k]? = some x -> x.con = true) := hco
 have HBr : Hid (Below w.heap.size w wr) := hb
 clear hco hb
 cases gk with
 | succ g =>
  have i1 : (j : Int) < (n : Int) := by omega
  have i0 : (0 : Int) <= (j : Int) := by omega
  obtain ⟨t, ht⟩ : ∃ t, l[j]? = some t := ⟨_, List.getElem?_eq_getElem (by have := HN.out; omega)⟩
  obtain ⟨b1, o1, rfl, hb1, e0, e1, e2⟩ := (HT.out.later HBr.out).cel ht
  have HCN : Hid (∀ X : World, Calls Tryz.prog 70 #[t.v] X fun e w' => e = .returned (.bool t.con) /\ Below X.heap.size X w') := fun X => rcon_any t X
  have HNX : Hid (t.con = true -> ∀ (k : Nat) (x : Tm), k < j + 1 -> l[k]? = some x -> x.con = true) := fun h0 k x hk hx => by
   rcases Nat.lt_succ_iff_lt_or_eq.1 hk with hk | rfl
   ·exact HCO.out k x hk hx
   ·rw [ht] at hx; cases hx; exact h0
  have HNO : Hid (t.con = false -> r = false) := fun h0 => by rw [<- HR.out]; exact allF ht h0
  obtain ⟨q, hq⟩ : ∃ q, t.con = q := ⟨_, rfl⟩
  rw [hq] at HCN HNX HNO
  clear ht hq HCO
  obtain ⟨tk, tn, ts⟩ := t
  simp only at e0 e1 e2
  cases q
  case false =>
   have HE : Hid (r = false) := HNO.out rfl
   go_wp2_with (go_at_call 70; refine (HCN.out _).mono ?_; rintro e w3 ⟨rfl, hb⟩; have HB3 : Hid (Below w.heap.size w w3) := below_step HBr.out hb; clear hb)
   go_ret
   exact ⟨ret_b HE.out.symm, HB3.out⟩
  case true =>
   have HN2 : Hid (∀ (k : Nat) (x : Tm), k < j + 1 -> l[k]? = some x -> x.con = true) := HNX.out rfl
   go_wp2_with (go_at_call 70; refine (HCN.out _).mono ?_; rintro e w3 ⟨rfl, hb⟩; have HB3 : Hid (Below w.heap.size w w3) := below_step HBr.out hb; clear hb)
   go_roundg g
   case measure => omega
   case rel => exact ⟨j + 1, by omega, by go_num, HN2.out, HB3.out⟩
 | zero =>
  have hjl : j = n := by omega
  have k1 : ¬ ((j : Int) < (n : Int)) := by omega
  have HE : Hid (r = true) := by show r = _; rw [<- HR.out]; exact allT fun k x hx => HCO.out k x (by have := (List.getElem?_eq_some_iff.1 hx).1; have := HN.out; omega) hx
  go_wp2
  go_ret
  exact ⟨ret_b HE.out.symm, HBr.out⟩
def SPH (w : World) (r : Except Int At) (e : Ending) (w' : World) : Prop := Below w.heap.size w w' /\ match r with
 | .ok a => ∃ y, e = .returned (.tuple #[a.v y, .int .i64 0]) /\ KpT w.heap.size w' y a.args
 | .error c => e = .returned (.tuple #[At.v ⟨zt, ⟨#[]⟩, []⟩ (.slice none 0 0), .int .i64 c])
set_option maxRecDepth 20000 in
set_option maxHeartbeats 1500000 in
theorem rstep_no (R : List Ck) (s : St) (F : List At) (ra : Option Addr) (rn rc : Nat) (fv : Value) (w : World) (hs : s.ok w) (hl : rn = R.length) (hp : ¬ (0 <= s.rule /\ s.rule < (rn : Int))) :
  Calls Tryz.prog 20 #[.slice ra rn rc, s.v, fv] w (SPH w (stepH R s.key F)) := by
 obtain ⟨⟨a1, cap1, x1⟩, ⟨a2, cap2, x2⟩, -, -⟩ := hs.shape
 have HE : Hid (stepH R s.key F = .error 122) := stepH_none (by rw [<- hl]; exact hp)
 generalize stepH R s.key F = r at HE ⊢
 obtain ⟨tr, tl, tv, tu, tw⟩ := s
 simp only at x1 x2 hp
 subst x1 x2
 generalize tl.length = ln
 generalize tu.length = lu
 have HB : Hid (CBlk ((w.alloc (.cells #[.int .i64 tr, .slice a1 ln cap1, .slice a2 lu cap2] 48)).alloc (.cells #[.int .i64 0, .int .i64 0, .string ⟨#[]⟩, .string ⟨#[]⟩, .slice none 0 0] 39)) w.heap.size #[.int .i64 tr, .slice a1 ln cap1, .slice a2 lu cap2] 48) := (CBlk.new _ _ _).later (below1 _ _)
 have HA : Hid (CBlk ((w.alloc (.cells #[.int .i64 tr, .slice a1 ln cap1, .slice a2 lu cap2] 48)).alloc (.cells #[.int .i64 0, .int .i64 0, .string ⟨#[]⟩, .string ⟨#[]⟩, .slice none 0 0] 39)) (w.heap.size + 1) #[.int .i64 0, .int .i64 0, .string ⟨#[]⟩, .string ⟨#[]⟩, .slice none 0 0] 39) := by
  have := CBlk.new (w.alloc (.cells #[.int .i64 tr, .slice a1 ln cap1, .slice a2 lu cap2] 48)) #[.int .i64 0, .int .i64 0, .string ⟨#[]⟩, .string ⟨#[]⟩, .slice none 0 0] 39
  rwa [show (w.alloc (.cells #[.int .i64 tr, .slice a1 ln cap1, .slice a2 lu cap2] 48)).heap.size = w.heap.size + 1 by simp] at this
 have HW : Hid (Below w.heap.size w ((w.alloc (.cells #[.int .i64 tr, .slice a1 ln cap1, .slice a2 lu cap2] 48)).alloc (.cells #[.int .i64 0, .int .i64 0, .string ⟨#[]⟩, .string ⟨#[]⟩, .slice none 0 0] 39))) := below2 _ _ _
 clear hs hl
 go_enter Tryz.func20, Tryz.ntmps20
 go_upto_region 1 with fail
 revert HB HA HW
 generalize (w.alloc (.cells #[.int .i64 tr, .slice a1 ln cap1, .slice a2 lu cap2] 48)).alloc (.cells #[.int .i64 0, .int .i64 0, .string ⟨#[]⟩, .string ⟨#[]⟩, .slice none 0 0] 39) = W0
 intro HB HA HW
 obtain ⟨c0, c1, c2⟩ := cthree HB.out
 by_cases hn : tr < 0
 ·clear hp
  obtain ⟨u0, u1, u2, u3, u4⟩ := cfive HA.out
  have s0 : W0.frozen? ⟨w.heap.size + 1, 0, none⟩ = false := (HA.out).froz
  have s1 : W0.frozen? ⟨w.heap.size + 1, 1, none⟩ = false := (HA.out).froz
  have s2 : W0.frozen? ⟨w.heap.size + 1, 2, none⟩ = false := (HA.out).froz
  have s3 : W0.frozen? ⟨w.heap.size + 1, 3, none⟩ = false := (HA.out).froz
  have s4 : W0.frozen? ⟨w.heap.size + 1, 4, none⟩ = false := (HA.out).froz
  have hN : w.heap.size <= w.heap.size + 1 := by omega
  go_wp2
  refine bodyPost_ret (v := .tuple #[At.v ⟨zt, ⟨#[]⟩, []⟩ (.slice none 0 0), .int .i64 122]) (by simp [results, Tryz.results20, go_sem, u0, u1, u2, u3, u4, zt]) rfl ⟨((((HW.out.setCell hN _).setCell hN _).setCell hN _).setCell hN _).setCell hN _, ?_⟩
  rw [HE.out]
 ·have hn2 : (rn : Int) <= tr := by omega
  clear hp
  obtain ⟨u0, u1, u2, u3, u4⟩ := cfive HA.out
  have s0 : W0.frozen? ⟨w.heap.size + 1, 0, none⟩ = false := (HA.out).froz
  have s1 : W0.frozen? ⟨w.heap.size + 1, 1, none⟩ = false := (HA.out).froz
  have s2 : W0.frozen? ⟨w.heap.size + 1, 2, none⟩ = false := (HA.out).froz
  have s3 : W0.frozen? ⟨w.heap.size + 1, 3, none⟩ = false := (HA.out).froz
  have s4 : W0.frozen? ⟨w.heap.size + 1, 4, none⟩ = false := (HA.out).froz
  have hN : w.heap.size <= w.heap.size + 1 := by omega
  go_wp2
  refine bodyPost_ret (v := .tuple #[At.v ⟨zt, ⟨#[]⟩, []⟩ (.slice none 0 0), .int .i64 122]) (by simp [results, Tryz.results20, go_sem, u0, u1, u2, u3, u4, zt]) rfl ⟨((((HW.out.setCell hN _).setCell hN _).setCell hN _).setCell hN _).setCell hN _, ?_⟩
  rw [HE.out]
set_option maxRecDepth 20000 in
set_option maxHeartbeats 3000000 in
theorem rstep_go (R : List Cm) (rv : Value) (s : St) (n : Nat) (c : Cm) (FL : List (At × Value)) (fv : Value) (w : World) (hR : CsP w rv R) (hs : s.ok w) (hF : As w fv FL) (hn : s.rule = (n : Int)) (hc : R[n]? = some c) (hkp : OKP w c) (hsz : szK c.key) (hfz : ∀ x ∈ FL, szA x.1) :
  Calls Tryz.prog 20 #[rv, s.v, fv] w (SPH w (ruleH c.key s.vals s.uses (fsts FL))) := by
 obtain ⟨ra, rc, rfl⟩ := hR.form
 obtain ⟨rb, ro, rfl, hrz, hrow, hok⟩ := hR.at_ hc
 have hsv := hrow.seven hc
 have hlt : n < R.length := (List.getElem?_eq_some_iff.1 hc).1
 obtain ⟨rn, hrn⟩ : ∃ k, k = R.length := ⟨_, rfl⟩
 rw [<- hrn] at hlt ⊢
 have HCK : Hid (∀ X : World, Below w.heap.size w X -> Calls Tryz.prog 39 #[c.v] X fun e w' => e = .returned (.int .i64 c.chk) /\ Below X.heap.size X w') := fun X hX => rcheckC_any c X (hok.later hX) (hkp.hh.later hX) (fun x hx => (hkp.hp x hx).later hX) (hkp.bp.later hX)
 have HVR0 : Hid (c.chk = 0 -> ∀ X : World, Below w.heap.size w X -> Calls Tryz.prog 40 #[c.v] X fun e w' => e = .returned (.int .i64 (nvH c.key : Nat)) /\ Below X.heap.size X w') := fun h0 X hX => by
  have hks := (chk_ksH h0).len
  have := rvarsC_any c X (hok.later hX) (hkp.hh.later hX) (fun x hx => (hkp.hp x hx).later hX) (by rw [key_terms]; omega)
  rw [show disT c.terms = disT (Ck.terms c.key) by rw [key_terms]] at this
  exact this
 have HIN0 : Hid (c.chk = 0 -> ∀ X : World, Below w.heap.size w X -> Calls Tryz.prog 42 #[c.v, s.vv] X fun e w' => ∃ d : Cm, e = .returned d.v /\ d.key = mapC (ins s.vals) c.key /\ Kp X.heap.size w' d /\ Below X.heap.size X w') := fun h0 X hX =>
  (rinst_any c s.vals s.vv X (hok.later hX) (hs.t.later hX) (hkp.hh.later hX) (fun x hx => (hkp.hp x hx).later hX) (by have := (chk_ksH h0).len; omega)).mono fun e w' ⟨d, he, hk, hm, hb⟩ => ⟨d, he, hk, hm.kp (by rw [hk]; exact (chk_ksH h0).map _), hb⟩
 have HSZ0 : Hid (s.vals.all Tm.con = true -> szK (mapC (ins s.vals) c.key)) := fun h0 => szK_ins (fun t ht => con_sz (List.all_eq_true.1 h0 t ht)) hsz
 have HFZ : Hid (∀ x ∈ FL, szA x.1) := hfz
 have HBL : Hid (c.body.length = c.key.2.1.length) := (key_len c).1
 have HFL : Hid (As w fv FL) := hF
 have HTS : Hid (Ts w s.vv s.vals) := hs.t
 have HNS : Hid (Ns w s.uv s.uses) := hs.u
 have HCH : Hid (c.chk = chkH c.key) := chk_keyH c
 have hcsh := hok.shape
 obtain ⟨⟨a1, cap1, x1⟩, ⟨a2, cap2, x2⟩, l1, l2⟩ := hs.shape
 obtain ⟨fa, fc, rfl⟩ := hF.sl
 obtain ⟨r, hr⟩ : ∃ r, ruleH c.key s.vals s.uses (fsts FL) = r := ⟨_, rfl⟩
 rw [hr]
 have HR : Hid (ruleH c.key s.vals s.uses (fsts FL) = r) := hr
 obtain ⟨KC, hKC⟩ : ∃ k, c.key = k := ⟨_, rfl⟩
 rw [hKC] at HVR0 HIN0 HBL HR HCH HSZ0
 obtain ⟨CH, hCH⟩ : ∃ k, c.chk = k := ⟨_, rfl⟩
 rw [hCH] at HCK HVR0 HIN0 HCH
 clear hR hF hok hrow hr hkp hsz hfz hKC hCH hs hc
 obtain ⟨tr, V, tv, U, tw⟩ := s
 simp only at x1 x2 l1 l2 HIN0 HTS HNS HR hn HSZ0
 subst x1 x2 hn
 obtain ⟨ln, hln⟩ : ∃ k, k = V.length := ⟨_, rfl⟩
 obtain ⟨lu, hlu⟩ : ∃ k, k = U.length := ⟨_, rfl⟩
 obtain ⟨fn, hfn⟩ : ∃ k, k = FL.length := ⟨_, rfl⟩
 rw [<- hln] at HTS HIN0 l1 ⊢
 rw [<- hlu] at HNS l2 ⊢
 rw [<- hfn] at HFL ⊢
 have HLN : Hid (ln = V.length /\ lu = U.length /\ fn = FL.length) := ⟨hln, hlu, hfn⟩
 obtain ⟨⟨⟨⟨ck, cm, cs⟩, cn, cl⟩, cx⟩, cb, cbv, ct, ctv⟩ := c
 simp only at hsv hcsh HBL
 obtain ⟨⟨c1, c2, c3, e1⟩, ⟨c4, c6, e2⟩, ⟨c7, c9, e3⟩, -, -⟩ := hcsh
 obtain ⟨c5, h5⟩ : ∃ k, cb.length = k := ⟨_, rfl⟩
 obtain ⟨c8, h8⟩ : ∃ k, ct.length = k := ⟨_, rfl⟩
 rw [h5] at e2 HBL
 rw [h8] at e3
 subst e1 e2 e3
 clear h5 h8 hln hlu hfn hrn
 obtain ⟨g0, g1, g2, g3, g4, g5, g6⟩ := hsv
 have HG := conj7 g0 g1 g2 g3 g4 g5 g6
 have HGz : Hid (rb < w.heap.size) := hrz
 clear g0 g1 g2 g3 g4 g5 g6 hrz
 have HS0 : Hid (CBlk ((w.alloc (.cells #[.int .i64 (n : Int), .slice a1 ln cap1, .slice a2 lu cap2] 48)).alloc (.cells #[.int .i64 0, .int .i64 0, .string ⟨#[]⟩, .string ⟨#[]⟩, .slice none 0 0] 39)) w.heap.size #[.int .i64 (n : Int), .slice a1 ln cap1, .slice a2 lu cap2] 48) := (CBlk.new _ _ _).later (below1 _ _)
 have HA0 : Hid (CBlk ((w.alloc (.cells #[.int .i64 (n : Int), .slice a1 ln cap1, .slice a2 lu cap2] 48)).alloc (.cells #[.int .i64 0, .int .i64 0, .string ⟨#[]⟩, .string ⟨#[]⟩, .slice none 0 0] 39)) (w.heap.size + 1) #[.int .i64 0, .int .i64 0, .string ⟨#[]⟩, .string ⟨#[]⟩, .slice none 0 0] 39) := by
  have := CBlk.new (w.alloc (.cells #[.int .i64 (n : Int), .slice a1 ln cap1, .slice a2 lu cap2] 48)) #[.int .i64 0, .int .i64 0, .string ⟨#[]⟩, .string ⟨#[]⟩, .slice none 0 0] 39
  rwa [show (w.alloc (.cells #[.int .i64 (n : Int), .slice a1 ln cap1, .slice a2 lu cap2] 48)).heap.size = w.heap.size + 1 by simp] at this
 have HW0 : Hid (Below w.heap.size w ((w.alloc (.cells #[.int .i64 (n : Int), .slice a1 ln cap1, .slice a2 lu cap2] 48)).alloc (.cells #[.int .i64 0, .int .i64 0, .string ⟨#[]⟩, .string ⟨#[]⟩, .slice none 0 0] 39))) := below2 _ _ _
 have n0 : (0 : Int) <= (n : Int) := by omega
 have n1 : (n : Int) < (rn : Int) := by omega
 have n2 : ¬ ((n : Int) < 0) := by omega
 have n3 : ¬ ((rn : Int) <= (n : Int)) := by omega
 clear hlt
 go_enter Tryz.func20, Tryz.ntmps20
 go_upto_region 1 with fail
 revert HS0 HA0 HW0
 generalize (w.alloc (.cells #[.int .i64 (n : Int), .slice a1 ln cap1, .slice a2 lu cap2] 48)).alloc (.cells #[.int .i64 0, .int .i64 0, .string ⟨#[]⟩, .string ⟨#[]⟩, .slice none 0 0] 39) = W0
 intro HS0 HA0 HW0
 obtain ⟨p0, p1, p2⟩ := cthree HS0.out
 have HGC : Hid (∀ X : World, Below w.heap.size w X -> X.cell? ⟨rb, ro + n * 7, none⟩ = some (.int .i64 ck) /\ X.cell? ⟨rb, ro + n * 7 + 1, none⟩ = some (.int .i64 cm) /\ X.cell? ⟨rb, ro + n * 7 + 2, none⟩ = some (.string cs) /\ X.cell? ⟨rb, ro + n * 7 + 3, none⟩ = some (.string cn) /\ X.cell? ⟨rb, ro + n * 7 + 4, none⟩ = some (.slice c1 c2 c3) /\ X.cell? ⟨rb, ro + n * 7 + 5, none⟩ = some (.slice c4 c5 c6) /\ X.cell? ⟨rb, ro + n * 7 + 6, none⟩ = some (.slice c7 c8 c9)) := fun X hX => by
  obtain ⟨g0, g1, g2, g3, g4, g5, g6⟩ := Hid.out HG
  have z := HGz.out
  exact ⟨cell_step hX z g0, cell_step hX z g1, cell_step hX z g2, cell_step hX z g3, cell_step hX z g4, cell_step hX z g5, cell_step hX z g6⟩
 clear HG HGz
 obtain ⟨g0, g1, g2, g3, g4, g5, g6⟩ := HGC.out _ HW0.out
 by_cases hz : CH = 0
 case neg =>
  have HE : Hid (r = .error 122) := by show r = _; rw [<- HR.out]; exact ruleH_1 (by rw [<- HCH.out]; exact hz)
  have hz1 : (CH == 0) = false := by simpa using hz
  have hz2 : (CH != 0) = true := by simpa using hz
  clear hz HR HCH HVR0 HIN0
  go_upto_if 33 with (go_at_call 39; refine (HCK.out _ HW0.out).mono ?_; rintro e w1 ⟨rfl, hb⟩; have HW1 : Hid (Below w.heap.size w w1) := below_step HW0.out hb; have HA1 : Hid (CBlk w1 (w.heap.size + 1) #[.int .i64 0, .int .i64 0, .string ⟨#[]⟩, .string ⟨#[]⟩, .slice none 0 0] 39) := HA0.out.later hb; clear hb g0 g1 g2 g3 g4 g5 g6 p0 p1 p2)
  obtain ⟨u0, u1, u2, u3, u4⟩ := cfive HA1.out
  have s0 : w1.frozen? ⟨w.heap.size + 1, 0, none⟩ = false := (HA1.out).froz
  have s1 : w1.frozen? ⟨w.heap.size + 1, 1, none⟩ = false := (HA1.out).froz
  have s2 : w1.frozen? ⟨w.heap.size + 1, 2, none⟩ = false := (HA1.out).froz
  have s3 : w1.frozen? ⟨w.heap.size + 1, 3, none⟩ = false := (HA1.out).froz
  have s4 : w1.frozen? ⟨w.heap.size + 1, 4, none⟩ = false := (HA1.out).froz
  have hN : w.heap.size <= w.heap.size + 1 := by omega
  go_wp2
  refine bodyPost_ret (v := .tuple #[At.v ⟨zt, ⟨#[]⟩, []⟩ (.slice none 0 0), .int .i64 122]) (by simp [results, Tryz.results20, go_sem, u0, u1, u2, u3, u4, zt]) rfl ⟨((((HW1.out.setCell hN _).setCell hN _).setCell hN _).setCell hN _).setCell hN _, ?_⟩
  rw [HE.out]
 case pos =>
 subst hz
 have HC0 : Hid (chkH KC = 0) := HCH.out.symm
 have HVR : Hid (∀ X : World, Below w.heap.size w X -> Calls Tryz.prog 40 #[.agg #[.int .i64 ck, .int .i64 cm, .string cs, .string cn, .slice c1 c2 c3, .slice c4 c5 c6, .slice c7 c8 c9]] X fun e w' => e = .returned (.int .i64 (nvH KC : Nat)) /\ Below X.heap.size X w') := HVR0.out rfl
 have HIN : Hid (∀ X : World, Below w.heap.size w X -> Calls Tryz.prog 42 #[.agg #[.int .i64 ck, .int .i64 cm, .string cs, .string cn, .slice c1 c2 c3, .slice c4 c5 c6, .slice c7 c8 c9], .slice a1 ln cap1] X fun e w' => ∃ d : Cm, e = .returned d.v /\ d.key = mapC (ins V) KC /\ Kp X.heap.size w' d /\ Below X.heap.size X w') := HIN0.out rfl
 clear HVR0 HIN0 HCH
 go_upto_region 4 with (go_at_call 39; refine (HCK.out _ HW0.out).mono ?_; rintro e w1 ⟨rfl, hb⟩; have HS1 : Hid (CBlk w1 w.heap.size #[.int .i64 (n : Int), .slice a1 ln cap1, .slice a2 lu cap2] 48) := HS0.out.later hb; have HA1 : Hid (CBlk w1 (w.heap.size + 1) #[.int .i64 0, .int .i64 0, .string ⟨#[]⟩, .string ⟨#[]⟩, .slice none 0 0] 39) := HA0.out.later hb; have HW1 : Hid (Below w.heap.size w w1) := below_step HW0.out hb; clear hb g0 g1 g2 g3 g4 g5 g6 p0 p1 p2; obtain ⟨g0, g1, g2, g3, g4, g5, g6⟩ := HGC.out _ HW1.out; obtain ⟨p0, p1, p2⟩ := cthree HS1.out)
 clear g0 g1 g2 g3 g4 g5 g6 p0 p1 p2 HS0 HA0 HW0 HCK HGC
 have HS2 : Hid (CBlk (w1.alloc (.cells #[.int .i64 ck, .int .i64 cm, .string cs, .string cn, .slice c1 c2 c3, .slice c4 c5 c6, .slice c7 c8 c9] 60)) w.heap.size #[.int .i64 (n : Int), .slice a1 ln cap1, .slice a2 lu cap2] 48) := HS1.out.later (below1 _ _)
 have HA2 : Hid (CBlk (w1.alloc (.cells #[.int .i64 ck, .int .i64 cm, .string cs, .string cn, .slice c1 c2 c3, .slice c4 c5 c6, .slice c7 c8 c9] 60)) (w.heap.size + 1) #[.int .i64 0, .int .i64 0, .string ⟨#[]⟩, .string ⟨#[]⟩, .slice none 0 0] 39) := HA1.out.later (below1 _ _)
 have HC2 : Hid (CBlk (w1.alloc (.cells #[.int .i64 ck, .int .i64 cm, .string cs, .string cn, .slice c1 c2 c3, .slice c4 c5 c6, .slice c7 c8 c9] 60)) w1.heap.size #[.int .i64 ck, .int .i64 cm, .string cs, .string cn, .slice c1 c2 c3, .slice c4 c5 c6, .slice c7 c8 c9] 60) := CBlk.new _ _ _
 have HW2 : Hid (Below w.heap.size w (w1.alloc (.cells #[.int .i64 ck, .int .i64 cm, .string cs, .string cn, .slice c1 c2 c3, .slice c4 c5 c6, .slice c7 c8 c9] 60))) := below_step HW1.out (below1 _ _)
 clear HS1 HA1 HW1
 revert HS2 HA2 HC2 HW2
 generalize w1.alloc (.cells #[.int .i64 ck, .int .i64 cm, .string cs, .string cn, .slice c1 c2 c3, .slice c4 c5 c6, .slice c7 c8 c9] 60) = X2
 generalize w1.heap.size = G7
 intro HS2 HA2 HC2 HW2
 have HVR : Hid (∀ Y : World, Below X2.heap.size X2 Y -> Calls Tryz.prog 40 #[.agg #[.int .i64 ck, .int .i64 cm, .string cs, .string cn, .slice c1 c2 c3, .slice c4 c5 c6, .slice c7 c8 c9]] Y fun e w' => e = .returned (.int .i64 (nvH KC : Nat)) /\ Below Y.heap.size Y w') := fun Y hY => HVR.out Y (below_step HW2.out hY)
 obtain ⟨nv, hnv⟩ : ∃ k, nvH KC = k := ⟨_, rfl⟩
 rw [hnv] at HVR
 have HNV : Hid (nvH KC = nv) := hnv
 clear hnv
 have HCN : Hid (∀ Y : World, Below X2.heap.size X2 Y -> Calls Tryz.prog 41 #[.slice a1 ln cap1] Y fun e w' => e = .returned (.bool (V.all Tm.con)) /\ Below Y.heap.size Y w') := fun Y hY => rconsts_any V _ Y (HTS.out.later (below_step HW2.out hY))
 by_cases hz : ln = nv
 case neg =>
  have HE : Hid (r = .error 123) := by show r = _; rw [<- HR.out]; exact ruleH_2 HC0.out (by rw [<- HLN.out.1, HNV.out]; exact hz)
  have hz1 : ((ln : Int) == (nv : Int)) = false := by simp; omega
  have hz2 : ((ln : Int) != (nv : Int)) = true := by simp; omega
  clear hz HR
  refine wp_region_held_drew (S := fun w' => Below X2.heap.size X2 w') (by kernel_rfl) (Below.refl _ _).drew (fun hH => ?_)
  revert hH
  generalize X2.drew = W9
  intro hH
  refine wTk 0 (.pointer (some ⟨w.heap.size, 1, none⟩)) rfl (by kernel_rfl) (fun _ _ _ h => h) (Or.inl ⟨by rfl, fun w' _ => by go_simp⟩) hH ?_
  simp only [wA8, wB8, wC8, wD8]
  refine wTk 1 (.slice a1 ln cap1) rfl (by kernel_rfl) (fun _ _ _ h => h) (Or.inl ⟨by rfl, fun w' h => by obtain ⟨q0, q1, q2⟩ := cthree (HS2.out.later h); clear h; go_simp⟩) hH ?_
  simp only [wA8, wB8, wC8, wD8]
  refine wTk 2 (.int .i64 (ln : Int)) rfl (by kernel_rfl) (fun _ _ _ h => h) (Or.inl ⟨by rfl, fun w' _ => by go_simp⟩) hH ?_
  simp only [wA8, wB8, wC8, wD8]
  refine wTk 3 (.agg #[.int .i64 ck, .int .i64 cm, .string cs, .string cn, .slice c1 c2 c3, .slice c4 c5 c6, .slice c7 c8 c9]) rfl (by kernel_rfl) (fun _ _ _ h => h) (Or.inl ⟨by rfl, fun w' h => by obtain ⟨q0, q1, q2, q3, q4, q5, q6⟩ := cseven (HC2.out.later h); clear h; go_simp⟩) hH ?_
  simp only [wA8, wB8, wC8, wD8]
  refine wRd 4 (by kernel_rfl) rfl (fun K hK => ?_)
  go_simp
  refine (HVR.out _ hH).mono ?_
  rintro e V1 ⟨rfl, hb⟩
  refine hK.out _ _ (below_step hH hb) (fun hH => ?_)
  clear hK K
  clear hb
  refine wTk 5 (.bool true) rfl (by kernel_rfl) (fun _ _ _ h => h) (Or.inl ⟨by rfl, fun w' _ => by go_simp⟩) hH ?_
  simp only [wA8, wB8, wC8, wD8]
  refine wTk 6 (.bool true) rfl (by kernel_rfl) (fun _ _ _ h => h) (Or.inl ⟨by rfl, fun w' _ => by go_simp⟩) hH ?_
  simp only [wA8, wB8, wC8, wD8]
  refine wTk 7 (undef) rfl (by kernel_rfl) (fun _ _ _ h => h) (Or.inr ⟨by rfl, rfl⟩) hH ?_
  simp only [wA8, wB8, wC8, wD8]
  refine wTk 8 (undef) rfl (by kernel_rfl) (fun _ _ _ h => h) (Or.inr ⟨by rfl, rfl⟩) hH ?_
  simp only [wA8, wB8, wC8, wD8]
  refine wTk 9 (undef) rfl (by kernel_rfl) (fun _ _ _ h => h) (Or.inr ⟨by rfl, rfl⟩) hH ?_
  simp only [wA8, wB8, wC8, wD8]
  refine wTk 10 (undef) rfl (by kernel_rfl) (fun _ _ _ h => h) (Or.inr ⟨by rfl, rfl⟩) hH ?_
  simp only [wA8, wB8, wC8, wD8]
  refine wTk 11 (.bool true) rfl (by kernel_rfl) (fun _ _ _ h => h) (Or.inl ⟨by rfl, fun w' _ => by go_simp⟩) hH ?_
  simp only [wA8, wB8, wC8, wD8]
  refine wpAnyH_done (by kernel_rfl) ?_ _
  have HV : Hid (Below X2.heap.size X2 V1) := hH
  clear hH
  generalize V1 = X3 at *
  have HW3 : Hid (Below w.heap.size w X3) := below_step HW2.out HV.out
  have HA3 : Hid (CBlk X3 (w.heap.size + 1) #[.int .i64 0, .int .i64 0, .string ⟨#[]⟩, .string ⟨#[]⟩, .slice none 0 0] 39) := HA2.out.later HV.out
  obtain ⟨u0, u1, u2, u3, u4⟩ := cfive HA3.out
  have s0 : X3.frozen? ⟨w.heap.size + 1, 0, none⟩ = false := (HA3.out).froz
  have s1 : X3.frozen? ⟨w.heap.size + 1, 1, none⟩ = false := (HA3.out).froz
  have s2 : X3.frozen? ⟨w.heap.size + 1, 2, none⟩ = false := (HA3.out).froz
  have s3 : X3.frozen? ⟨w.heap.size + 1, 3, none⟩ = false := (HA3.out).froz
  have s4 : X3.frozen? ⟨w.heap.size + 1, 4, none⟩ = false := (HA3.out).froz
  have hN : w.heap.size <= w.heap.size + 1 := by omega
  go_wp2
  refine bodyPost_ret (v := .tuple #[At.v ⟨zt, ⟨#[]⟩, []⟩ (.slice none 0 0), .int .i64 123]) (by simp [results, Tryz.results20, go_sem, u0, u1, u2, u3, u4, zt]) rfl ⟨((((HW3.out.setCell hN _).setCell hN _).setCell hN _).setCell hN _).setCell hN _, ?_⟩
  rw [HE.out]
 case pos =>
 have hz1 : ((ln : Int) == (nv : Int)) = true := by simp; omega
 have hz2 : ((ln : Int) != (nv : Int)) = false := by simp; omega
 have HV2 : Hid (V.length = nvH KC) := by show _ = _; rw [<- HLN.out.1, HNV.out]; exact hz
 clear hz
 obtain ⟨cq, hcq⟩ : ∃ q, V.all Tm.con = q := ⟨_, rfl⟩
 rw [hcq] at HCN
 cases cq
 case false =>
  have HE : Hid (r = .error 123) := by show r = _; rw [<- HR.out]; exact ruleH_3 HC0.out HV2.out hcq
  clear HR hcq
  refine wp_region_held_drew (S := fun w' => Below X2.heap.size X2 w') (by kernel_rfl) (Below.refl _ _).drew (fun hH => ?_)
  revert hH
  generalize X2.drew = W9
  intro hH
  refine wTk 0 (.pointer (some ⟨w.heap.size, 1, none⟩)) rfl (by kernel_rfl) (fun _ _ _ h => h) (Or.inl ⟨by rfl, fun w' _ => by go_simp⟩) hH ?_
  simp only [wA8, wB8, wC8, wD8]
  refine wTk 1 (.slice a1 ln cap1) rfl (by kernel_rfl) (fun _ _ _ h => h) (Or.inl ⟨by rfl, fun w' h => by obtain ⟨q0, q1, q2⟩ := cthree (HS2.out.later h); clear h; go_simp⟩) hH ?_
  simp only [wA8, wB8, wC8, wD8]
  refine wTk 2 (.int .i64 (ln : Int)) rfl (by kernel_rfl) (fun _ _ _ h => h) (Or.inl ⟨by rfl, fun w' _ => by go_simp⟩) hH ?_
  simp only [wA8, wB8, wC8, wD8]
  refine wTk 3 (.agg #[.int .i64 ck, .int .i64 cm, .string cs, .string cn, .slice c1 c2 c3, .slice c4 c5 c6, .slice c7 c8 c9]) rfl (by kernel_rfl) (fun _ _ _ h => h) (Or.inl ⟨by rfl, fun w' h => by obtain ⟨q0, q1, q2, q3, q4, q5, q6⟩ := cseven (HC2.out.later h); clear h; go_simp⟩) hH ?_
  simp only [wA8, wB8, wC8, wD8]
  refine wRd 4 (by kernel_rfl) rfl (fun K hK => ?_)
  go_simp
  refine (HVR.out _ hH).mono ?_
  rintro e V1 ⟨rfl, hb⟩
  refine hK.out _ _ (below_step hH hb) (fun hH => ?_)
  clear hK K
  clear hb
  refine wTk 5 (.bool false) rfl (by kernel_rfl) (fun _ _ _ h => h) (Or.inl ⟨by rfl, fun w' _ => by go_simp⟩) hH ?_
  simp only [wA8, wB8, wC8, wD8]
  refine wTk 6 (.bool false) rfl (by kernel_rfl) (fun _ _ _ h => h) (Or.inl ⟨by rfl, fun w' _ => by go_simp⟩) hH ?_
  simp only [wA8, wB8, wC8, wD8]
  refine wTk 7 (.pointer (some ⟨w.heap.size, 1, none⟩)) rfl (by kernel_rfl) (fun _ _ _ h => h) (Or.inl ⟨by rfl, fun w' _ => by go_simp⟩) hH ?_
  simp only [wA8, wB8, wC8, wD8]
  refine wTk 8 (.slice a1 ln cap1) rfl (by kernel_rfl) (fun _ _ _ h => h) (Or.inl ⟨by rfl, fun w' h => by obtain ⟨q0, q1, q2⟩ := cthree (HS2.out.later h); clear h; go_simp⟩) hH ?_
  simp only [wA8, wB8, wC8, wD8]
  refine wRd 9 (by kernel_rfl) rfl (fun K hK => ?_)
  go_simp
  refine (HCN.out _ hH).mono ?_
  rintro e V2 ⟨rfl, hb⟩
  refine hK.out _ _ (below_step hH hb) (fun hH => ?_)
  clear hK K
  clear hb
  refine wTk 10 (.bool true) rfl (by kernel_rfl) (fun _ _ _ h => h) (Or.inl ⟨by rfl, fun w' _ => by go_simp⟩) hH ?_
  simp only [wA8, wB8, wC8, wD8]
  refine wTk 11 (.bool true) rfl (by kernel_rfl) (fun _ _ _ h => h) (Or.inl ⟨by rfl, fun w' _ => by go_simp⟩) hH ?_
  simp only [wA8, wB8, wC8, wD8]
  refine wpAnyH_done (by kernel_rfl) ?_ _
  have HV : Hid (Below X2.heap.size X2 V2) := hH
  clear hH
  generalize V2 = X3 at *
  have HW3 : Hid (Below w.heap.size w X3) := below_step HW2.out HV.out
  have HA3 : Hid (CBlk X3 (w.heap.size + 1) #[.int .i64 0, .int .i64 0, .string ⟨#[]⟩, .string ⟨#[]⟩, .slice none 0 0] 39) := HA2.out.later HV.out
  obtain ⟨u0, u1, u2, u3, u4⟩ := cfive HA3.out
  have s0 : X3.frozen? ⟨w.heap.size + 1, 0, none⟩ = false := (HA3.out).froz
  have s1 : X3.frozen? ⟨w.heap.size + 1, 1, none⟩ = false := (HA3.out).froz
  have s2 : X3.frozen? ⟨w.heap.size + 1, 2, none⟩ = false := (HA3.out).froz
  have s3 : X3.frozen? ⟨w.heap.size + 1, 3, none⟩ = false := (HA3.out).froz
  have s4 : X3.frozen? ⟨w.heap.size + 1, 4, none⟩ = false := (HA3.out).froz
  have hN : w.heap.size <= w.heap.size + 1 := by omega
  go_wp2
  refine bodyPost_ret (v := .tuple #[At.v ⟨zt, ⟨#[]⟩, []⟩ (.slice none 0 0), .int .i64 123]) (by simp [results, Tryz.results20, go_sem, u0, u1, u2, u3, u4, zt]) rfl ⟨((((HW3.out.setCell hN _).setCell hN _).setCell hN _).setCell hN _).setCell hN _, ?_⟩
  rw [HE.out]
 case true =>
 have HV3 : Hid (V.all Tm.con = true) := hcq
 have HSZ : Hid (szK (mapC (ins V) KC)) := HSZ0.out hcq
 clear hcq HSZ0
 refine wp_region_held_drew (S := fun w' => Below X2.heap.size X2 w') (by kernel_rfl) (Below.refl _ _).drew (fun hH => ?_)
 revert hH
 generalize X2.drew = W9
 intro hH
 refine wTk 0 (.pointer (some ⟨w.heap.size, 1, none⟩)) rfl (by kernel_rfl) (fun _ _ _ h => h) (Or.inl ⟨by rfl, fun w' _ => by go_simp⟩) hH ?_
 simp only [wA8, wB8, wC8, wD8]
 refine wTk 1 (.slice a1 ln cap1) rfl (by kernel_rfl) (fun _ _ _ h => h) (Or.inl ⟨by rfl, fun w' h => by obtain ⟨q0, q1, q2⟩ := cthree (HS2.out.later h); clear h; go_simp⟩) hH ?_
 simp only [wA8, wB8, wC8, wD8]
 refine wTk 2 (.int .i64 (ln : Int)) rfl (by kernel_rfl) (fun _ _ _ h => h) (Or.inl ⟨by rfl, fun w' _ => by go_simp⟩) hH ?_
 simp only [wA8, wB8, wC8, wD8]
 refine wTk 3 (.agg #[.int .i64 ck, .int .i64 cm, .string cs, .string cn, .slice c1 c2 c3, .slice c4 c5 c6, .slice c7 c8 c9]) rfl (by kernel_rfl) (fun _ _ _ h => h) (Or.inl ⟨by rfl, fun w' h => by obtain ⟨q0, q1, q2, q3, q4, q5, q6⟩ := cseven (HC2.out.later h); clear h; go_simp⟩) hH ?_
 simp only [wA8, wB8, wC8, wD8]
 refine wRd 4 (by kernel_rfl) rfl (fun K hK => ?_)
 go_simp
 refine (HVR.out _ hH).mono ?_
 rintro e V1 ⟨rfl, hb⟩
 refine hK.out _ _ (below_step hH hb) (fun hH => ?_)
 clear hK K
 clear hb
 refine wTk 5 (.bool false) rfl (by kernel_rfl) (fun _ _ _ h => h) (Or.inl ⟨by rfl, fun w' _ => by go_simp⟩) hH ?_
 simp only [wA8, wB8, wC8, wD8]
 refine wTk 6 (.bool false) rfl (by kernel_rfl) (fun _ _ _ h => h) (Or.inl ⟨by rfl, fun w' _ => by go_simp⟩) hH ?_
 simp only [wA8, wB8, wC8, wD8]
 refine wTk 7 (.pointer (some ⟨w.heap.size, 1, none⟩)) rfl (by kernel_rfl) (fun _ _ _ h => h) (Or.inl ⟨by rfl, fun w' _ => by go_simp⟩) hH ?_
 simp only [wA8, wB8, wC8, wD8]
 refine wTk 8 (.slice a1 ln cap1) rfl (by kernel_rfl) (fun _ _ _ h => h) (Or.inl ⟨by rfl, fun w' h => by obtain ⟨q0, q1, q2⟩ := cthree (HS2.out.later h); clear h; go_simp⟩) hH ?_
 simp only [wA8, wB8, wC8, wD8]
 refine wRd 9 (by kernel_rfl) rfl (fun K hK => ?_)
 go_simp
 refine (HCN.out _ hH).mono ?_
 rintro e V2 ⟨rfl, hb⟩
 refine hK.out _ _ (below_step hH hb) (fun hH => ?_)
 clear hK K
 clear hb
 refine wTk 10 (.bool false) rfl (by kernel_rfl) (fun _ _ _ h => h) (Or.inl ⟨by rfl, fun w' _ => by go_simp⟩) hH ?_
 simp only [wA8, wB8, wC8, wD8]
 refine wTk 11 (.bool false) rfl (by kernel_rfl) (fun _ _ _ h => h) (Or.inl ⟨by rfl, fun w' _ => by go_simp⟩) hH ?_
 simp only [wA8, wB8, wC8, wD8]
 refine wpAnyH_done (by kernel_rfl) ?_ _
 have HV : Hid (Below X2.heap.size X2 V2) := hH
 clear hH
 generalize V2 = X3 at *
 have HS4 : Hid (CBlk X3 w.heap.size #[.int .i64 (n : Int), .slice a1 ln cap1, .slice a2 lu cap2] 48) := HS2.out.later HV.out
 have HA4 : Hid (CBlk X3 (w.heap.size + 1) #[.int .i64 0, .int .i64 0, .string ⟨#[]⟩, .string ⟨#[]⟩, .slice none 0 0] 39) := HA2.out.later HV.out
 have HC4 : Hid (CBlk X3 G7 #[.int .i64 ck, .int .i64 cm, .string cs, .string cn, .slice c1 c2 c3, .slice c4 c5 c6, .slice c7 c8 c9] 60) := HC2.out.later HV.out
 have HW4 : Hid (Below w.heap.size w X3) := below_step HW2.out HV.out
 clear HS2 HA2 HC2 HW2 HV HVR HNV HCN
 generalize X3 = X4 at *
 obtain ⟨p0, p1, p2⟩ := cthree HS4.out
 obtain ⟨q0, q1, q2, q3, q4, q5, q6⟩ := cseven HC4.out
 by_cases hz : lu = c5
 case neg =>
  have HE : Hid (r = .error 124) := by show r = _; rw [<- HR.out]; exact ruleH_4 HC0.out HV2.out HV3.out (by rw [<- HLN.out.2.1, <- HBL.out]; exact hz)
  have hz1 : ((lu : Int) == (c5 : Int)) = false := by simp; omega
  have hz2 : ((lu : Int) != (c5 : Int)) = true := by simp; omega
  clear hz HR
  obtain ⟨u0, u1, u2, u3, u4⟩ := cfive HA4.out
  have s0 : X4.frozen? ⟨w.heap.size + 1, 0, none⟩ = false := (HA4.out).froz
  have s1 : X4.frozen? ⟨w.heap.size + 1, 1, none⟩ = false := (HA4.out).froz
  have s2 : X4.frozen? ⟨w.heap.size + 1, 2, none⟩ = false := (HA4.out).froz
  have s3 : X4.frozen? ⟨w.heap.size + 1, 3, none⟩ = false := (HA4.out).froz
  have s4 : X4.frozen? ⟨w.heap.size + 1, 4, none⟩ = false := (HA4.out).froz
  have hN : w.heap.size <= w.heap.size + 1 := by omega
  go_wp2
  refine bodyPost_ret (v := .tuple #[At.v ⟨zt, ⟨#[]⟩, []⟩ (.slice none 0 0), .int .i64 124]) (by simp [results, Tryz.results20, go_sem, u0, u1, u2, u3, u4, zt]) rfl ⟨((((HW4.out.setCell hN _).setCell hN _).setCell hN _).setCell hN _).setCell hN _, ?_⟩
  rw [HE.out]
 case pos =>
 have hz1 : ((lu : Int) == (c5 : Int)) = true := by simp; omega
 have hz2 : ((lu : Int) != (c5 : Int)) = false := by simp; omega
 have HV4 : Hid (U.length = KC.2.1.length) := by show _ = _; rw [<- HLN.out.2.1, <- HBL.out]; exact hz
 clear hz
 have lub : lu < 1000000000000000000 := l2
 go_wp2_with fail
 clear p0 p1 p2 q0 q1 q2 q3 q4 q5 q6
 go_loopg [9] lu (fun g i wr => ∃ j : Nat, j + g = lu /\ i = .int .i64 (j : Int) /\ (∀ (k : Nat) (x : Int), k < j -> U[k]? = some x -> decide (0 <= x /\ x < (fn : Int)) = true) /\ Below X4.heap.size X4 wr)
 case atStart => exact ⟨0, by omega, rfl, (fun k x hk => absurd hk (by omega)), Below.refl _ _⟩
 case round =>
 obtain ⟨j, hj, rfl, hco, hb⟩ := hrel
 have HCO : Hid (∀ (k : Nat) (x : Int), k < j -> U[k]? = some x -> decide (0 <= x /\ x < (fn : Int)) = true) := hco
 have HBr : Hid (Below X4.heap.size X4 wr) := hb
 clear hco hb
 cases gk with
 | succ g =>
  have i1 : (j : Int) < (lu : Int) := by omega
  have i0 : (0 : Int) <= (j : Int) := by omega
  obtain ⟨t, ht⟩ : ∃ t, U[j]? = some t := ⟨_, List.getElem?_eq_getElem (by have := HLN.out.2.1; omega)⟩
  obtain ⟨b1, o1, rfl, hb1, e0⟩ := (HNS.out.later (below_step HW4.out HBr.out)).cel ht
  have HSW : Hid (CBlk wr w.heap.size #[.int .i64 (n : Int), .slice a1 ln cap1, .slice (some ⟨b1, o1, none⟩) lu cap2] 48) := HS4.out.later HBr.out
  obtain ⟨p0, p1, p2⟩ := cthree HSW.out
  have HNX : Hid (decide (0 <= t /\ t < (fn : Int)) = true -> ∀ (k : Nat) (x : Int), k < j + 1 -> U[k]? = some x -> decide (0 <= x /\ x < (fn : Int)) = true) := fun h0 k x hk hx => by
   rcases Nat.lt_succ_iff_lt_or_eq.1 hk with hk | rfl
   ·exact HCO.out k x hk hx
   ·rw [ht] at hx; cases hx; exact h0
  have HNO : Hid (decide (0 <= t /\ t < (fn : Int)) = false -> r = .error 124) := fun h0 => by
   rw [<- HR.out]
   refine ruleH_5 HC0.out HV2.out HV3.out HV4.out (allF ht ?_)
   rw [show (fsts FL).length = fn by rw [HLN.out.2.2]; simp [fsts]]; exact h0
  obtain ⟨q, hq⟩ : ∃ q, decide (0 <= t /\ t < (fn : Int)) = q := ⟨_, rfl⟩
  rw [hq] at HNX HNO
  clear ht HCO
  cases q
  case false =>
   have HE : Hid (r = .error 124) := HNO.out rfl
   have hq := of_decide_eq_false hq
   have HW5 : Hid (Below w.heap.size w wr) := below_step HW4.out HBr.out
   have HA5 : Hid (CBlk wr (w.heap.size + 1) #[.int .i64 0, .int .i64 0, .string ⟨#[]⟩, .string ⟨#[]⟩, .slice none 0 0] 39) := HA4.out.later HBr.out
   by_cases hneg : t < 0
   ·clear hq
    obtain ⟨u0, u1, u2, u3, u4⟩ := cfive HA5.out
    have s0 : wr.frozen? ⟨w.heap.size + 1, 0, none⟩ = false := (HA5.out).froz
    have s1 : wr.frozen? ⟨w.heap.size + 1, 1, none⟩ = false := (HA5.out).froz
    have s2 : wr.frozen? ⟨w.heap.size + 1, 2, none⟩ = false := (HA5.out).froz
    have s3 : wr.frozen? ⟨w.heap.size + 1, 3, none⟩ = false := (HA5.out).froz
    have s4 : wr.frozen? ⟨w.heap.size + 1, 4, none⟩ = false := (HA5.out).froz
    have hN : w.heap.size <= w.heap.size + 1 := by omega
    go_wp2
    refine bodyPost_ret (v := .tuple #[At.v ⟨zt, ⟨#[]⟩, []⟩ (.slice none 0 0), .int .i64 124]) (by simp [results, Tryz.results20, go_sem, u0, u1, u2, u3, u4, zt]) rfl ⟨((((HW5.out.setCell hN _).setCell hN _).setCell hN _).setCell hN _).setCell hN _, ?_⟩
    rw [HE.out]
   ·have hge : (fn : Int) <= t := by omega
    clear hq
    obtain ⟨u0, u1, u2, u3, u4⟩ := cfive HA5.out
    have s0 : wr.frozen? ⟨w.heap.size + 1, 0, none⟩ = false := (HA5.out).froz
    have s1 : wr.frozen? ⟨w.heap.size + 1, 1, none⟩ = false := (HA5.out).froz
    have s2 : wr.frozen? ⟨w.heap.size + 1, 2, none⟩ = false := (HA5.out).froz
    have s3 : wr.frozen? ⟨w.heap.size + 1, 3, none⟩ = false := (HA5.out).froz
    have s4 : wr.frozen? ⟨w.heap.size + 1, 4, none⟩ = false := (HA5.out).froz
    have hN : w.heap.size <= w.heap.size + 1 := by omega
    go_wp2
    refine bodyPost_ret (v := .tuple #[At.v ⟨zt, ⟨#[]⟩, []⟩ (.slice none 0 0), .int .i64 124]) (by simp [results, Tryz.results20, go_sem, u0, u1, u2, u3, u4, zt]) rfl ⟨((((HW5.out.setCell hN _).setCell hN _).setCell hN _).setCell hN _).setCell hN _, ?_⟩
    rw [HE.out]
  case true =>
   have HN2 : Hid (∀ (k : Nat) (x : Int), k < j + 1 -> U[k]? = some x -> decide (0 <= x /\ x < (fn : Int)) = true) := HNX.out rfl
   have hq := of_decide_eq_true hq
   have hn1 : ¬ (t < 0) := by omega
   have hn2 : ¬ ((fn : Int) <= t) := by omega
   clear hq
   go_wp2
   go_roundg g
   case measure => omega
   case rel => exact ⟨j + 1, by omega, by go_num, HN2.out, HBr.out⟩
 | zero =>
 have hjl : j = lu := by omega
 have k1 : ¬ ((j : Int) < (lu : Int)) := by omega
 have HUS : Hid (∀ (k : Nat) (x : Int), U[k]? = some x -> 0 <= x /\ x < (fn : Int)) := fun k x hx => of_decide_eq_true (HCO.out k x (by have := (List.getElem?_eq_some_iff.1 hx).1; have := HLN.out.2.1; omega) hx)
 have HV5 : Hid (usH U (fsts FL).length = true) := allT fun k x hx => decide_eq_true (by rw [show (fsts FL).length = fn by rw [HLN.out.2.2]; simp [fsts]]; exact HUS.out k x hx)
 clear HCO hjl
 have HS5 : Hid (CBlk wr w.heap.size #[.int .i64 (n : Int), .slice a1 ln cap1, .slice a2 lu cap2] 48) := HS4.out.later HBr.out
 have HA5 : Hid (CBlk wr (w.heap.size + 1) #[.int .i64 0, .int .i64 0, .string ⟨#[]⟩, .string ⟨#[]⟩, .slice none 0 0] 39) := HA4.out.later HBr.out
 have HC5 : Hid (CBlk wr G7 #[.int .i64 ck, .int .i64 cm, .string cs, .string cn, .slice c1 c2 c3, .slice c4 c5 c6, .slice c7 c8 c9] 60) := HC4.out.later HBr.out
 have HW5 : Hid (Below w.heap.size w wr) := below_step HW4.out HBr.out
 clear HS4 HA4 HC4 HW4 HBr
 generalize wr = X5 at *
 obtain ⟨p0, p1, p2⟩ := cthree HS5.out
 obtain ⟨q0, q1, q2, q3, q4, q5, q6⟩ := cseven HC5.out
 have hbz : w.heap.size + 2 <= X5.heap.size := HA5.out.lt
 go_upto_region 14 with (go_at_call 42; refine (HIN.out _ HW5.out).mono ?_; rintro e w6 ⟨d, rfl, hdk, hkp, hb⟩; have hok := hkp.ok; obtain ⟨⟨d1, d2, d3, f1⟩, ⟨d4, d6, f2⟩, ⟨d7, d9, f3⟩, -, -⟩ := hok.shape; have HDK : Hid (d.key = mapC (ins V) KC) := hdk; have HKP : Hid (Kp (w.heap.size + 2) w6 d) := hkp.mono hbz; obtain ⟨⟨⟨⟨dk, dm, ds⟩, dn, dl⟩, dx⟩, db, dbv, dt, dtv⟩ := d; simp only at f1 f2 f3; obtain ⟨d5, h5⟩ : ∃ k, db.length = k := ⟨_, rfl⟩; obtain ⟨d8, h8⟩ : ∃ k, dt.length = k := ⟨_, rfl⟩; rw [h5] at f2; rw [h8] at f3; subst f1 f2 f3; have HLD : Hid (db.length = d5 /\ dt.length = d8) := ⟨h5, h8⟩; have HS6 : Hid (CBlk w6 w.heap.size #[.int .i64 (n : Int), .slice a1 ln cap1, .slice a2 lu cap2] 48) := HS5.out.later hb; have HA6 : Hid (CBlk w6 (w.heap.size + 1) #[.int .i64 0, .int .i64 0, .string ⟨#[]⟩, .string ⟨#[]⟩, .slice none 0 0] 39) := HA5.out.later hb; have HW6 : Hid (Below w.heap.size w w6) := below_step HW5.out hb; clear hb hok hkp hdk h5 h8 p0 p1 p2 q0 q1 q2 q3 q4 q5 q6)
 clear HS5 HA5 HC5 HW5 HIN hbz
 have HSD : Hid (CBlk (w6.alloc (.cells #[.int .i64 dk, .int .i64 dm, .string ds, .string dn, .slice d1 d2 d3, .slice d4 d5 d6, .slice d7 d8 d9] 60)) w.heap.size #[.int .i64 (n : Int), .slice a1 ln cap1, .slice a2 lu cap2] 48) := HS6.out.later (below1 _ _)
 have HAD : Hid (CBlk (w6.alloc (.cells #[.int .i64 dk, .int .i64 dm, .string ds, .string dn, .slice d1 d2 d3, .slice d4 d5 d6, .slice d7 d8 d9] 60)) (w.heap.size + 1) #[.int .i64 0, .int .i64 0, .string ⟨#[]⟩, .string ⟨#[]⟩, .slice none 0 0] 39) := HA6.out.later (below1 _ _)
 have HDD : Hid (CBlk (w6.alloc (.cells #[.int .i64 dk, .int .i64 dm, .string ds, .string dn, .slice d1 d2 d3, .slice d4 d5 d6, .slice d7 d8 d9] 60)) w6.heap.size #[.int .i64 dk, .int .i64 dm, .string ds, .string dn, .slice d1 d2 d3, .slice d4 d5 d6, .slice d7 d8 d9] 60) := CBlk.new _ _ _
 have HWD : Hid (Below w.heap.size w (w6.alloc (.cells #[.int .i64 dk, .int .i64 dm, .string ds, .string dn, .slice d1 d2 d3, .slice d4 d5 d6, .slice d7 d8 d9] 60))) := below_step HW6.out (below1 _ _)
 have HKD : Hid (Kp (w.heap.size + 2) (w6.alloc (.cells #[.int .i64 dk, .int .i64 dm, .string ds, .string dn, .slice d1 d2 d3, .slice d4 d5 d6, .slice d7 d8 d9] 60)) ⟨(⟨⟨dk, dm, ds⟩, dn, dl⟩, .slice d1 d2 d3), db, .slice d4 d5 d6, dt, .slice d7 d8 d9⟩) := HKP.out.later (below1 _ _)
 clear HS6 HA6 HW6 HKP
 revert HSD HAD HDD HWD HKD
 generalize w6.alloc (.cells #[.int .i64 dk, .int .i64 dm, .string ds, .string dn, .slice d1 d2 d3, .slice d4 d5 d6, .slice d7 d8 d9] 60) = XD
 generalize w6.heap.size = GD
 intro HSD HAD HDD HWD HKD
 have HKT : Hid (dt = (mapC (ins V) KC).2.2 /\ fsts db = (mapC (ins V) KC).2.1 /\ (⟨⟨dk, dm, ds⟩, dn, dl⟩ : At) = (mapC (ins V) KC).1) := ⟨congrArg (fun k : Ck => k.2.2) HDK.out, congrArg (fun k : Ck => k.2.1) HDK.out, congrArg (fun k : Ck => k.1) HDK.out⟩
 have HET : Hid (Es XD (.slice d7 d8 d9) dt) := HKD.out.ok.t
 have HAB : Hid (As XD (.slice d4 d5 d6) db) := HKD.out.ok.b
 have d8b : d8 < 1000000000000000000 := by obtain ⟨_, _, e, h, _⟩ := HET.out; simp only [Value.slice.injEq] at e; have := HLD.out.2; omega
 have d5b : d5 < 1000000000000000000 := by obtain ⟨_, _, e, h, _⟩ := HAB.out; simp only [Value.slice.injEq] at e; have := HLD.out.1; omega
 obtain ⟨q0, q1, q2, q3, q4, q5, q6⟩ := cseven HDD.out
 clear HDK k1 hj
 go_wp2_with fail
 clear q0 q1 q2 q3 q4 q5 q6
 go_loopg [11] d8 (fun g i wr => ∃ j : Nat, j + g = d8 /\ i = .int .i64 (j : Int) /\ (∀ (k : Nat) (x : Te), k < j -> dt[k]? = some x -> x.holds = true) /\ Below XD.heap.size XD wr)
 case atStart => exact ⟨0, by omega, rfl, (fun k x hk => absurd hk (by omega)), Below.refl _ _⟩
 case round =>
 obtain ⟨j, hj, rfl, hco, hb⟩ := hrel
 have HCO : Hid (∀ (k : Nat) (x : Te), k < j -> dt[k]? = some x -> x.holds = true) := hco
 have HBr : Hid (Below XD.heap.size XD wr) := hb
 clear hco hb
 cases gk with
 | succ g =>
  have i1 : (j : Int) < (d8 : Int) := by omega
  have i0 : (0 : Int) <= (j : Int) := by omega
  obtain ⟨b1, o1, t, rfl, ht, hb1, e0, e1, e2, e3, e4, e5, e6⟩ := (HET.out.later HBr.out).get_ (j := j) (by omega)
  have HCN : Hid (∀ X : World, Calls Tryz.prog 43 #[t.v] X fun e w' => e = .returned (.tuple #[.bool t.holds, .bool t.known]) /\ Below X.heap.size X w') := fun X => by
   have h9 := HSZ.out.2.2 t (by rw [<- HKT.out.1]; exact List.mem_of_getElem? ht)
   exact rdecide_any t X h9.1 h9.2
  have HDW : Hid (CBlk wr GD #[.int .i64 dk, .int .i64 dm, .string ds, .string dn, .slice d1 d2 d3, .slice d4 d5 d6, .slice (some ⟨b1, o1, none⟩) d8 d9] 60) := HDD.out.later HBr.out
  obtain ⟨q0, q1, q2, q3, q4, q5, q6⟩ := cseven HDW.out
  have HNX : Hid (t.holds = true -> ∀ (k : Nat) (x : Te), k < j + 1 -> dt[k]? = some x -> x.holds = true) := fun h0 k x hk hx => by
   rcases Nat.lt_succ_iff_lt_or_eq.1 hk with hk | rfl
   ·exact HCO.out k x hk hx
   ·rw [ht] at hx; cases hx; exact h0
  have HNO : Hid (t.holds = false -> r = .error 125) := fun h0 => by
   rw [<- HR.out]
   refine ruleH_6 HC0.out HV2.out HV3.out HV4.out HV5.out ?_
   rw [<- HKT.out.1]
   exact allF ht h0
  obtain ⟨q, hq⟩ : ∃ q, t.holds = q := ⟨_, rfl⟩
  obtain ⟨kn, hkn⟩ : ∃ q, t.known = q := ⟨_, rfl⟩
  rw [hq, hkn] at HCN
  rw [hq] at HNX HNO
  clear ht hq hkn HCO
  obtain ⟨op, ⟨lk, lm, ls⟩, ⟨rk, rm, rs⟩⟩ := t
  simp only at e0 e1 e2 e3 e4 e5 e6
  cases q
  case false =>
   have HE : Hid (r = .error 125) := HNO.out rfl
   go_upto_if 106 with (go_at_call 43; refine (HCN.out _).mono ?_; rintro e w3 ⟨rfl, hb⟩; have HW3 : Hid (Below w.heap.size w w3) := below_step (below_step HWD.out HBr.out) hb; have HA3 : Hid (CBlk w3 (w.heap.size + 1) #[.int .i64 0, .int .i64 0, .string ⟨#[]⟩, .string ⟨#[]⟩, .slice none 0 0] 39) := (HAD.out.later HBr.out).later hb; clear hb)
   obtain ⟨u0, u1, u2, u3, u4⟩ := cfive HA3.out
   have s0 : w3.frozen? ⟨w.heap.size + 1, 0, none⟩ = false := (HA3.out).froz
   have s1 : w3.frozen? ⟨w.heap.size + 1, 1, none⟩ = false := (HA3.out).froz
   have s2 : w3.frozen? ⟨w.heap.size + 1, 2, none⟩ = false := (HA3.out).froz
   have s3 : w3.frozen? ⟨w.heap.size + 1, 3, none⟩ = false := (HA3.out).froz
   have s4 : w3.frozen? ⟨w.heap.size + 1, 4, none⟩ = false := (HA3.out).froz
   have hN : w.heap.size <= w.heap.size + 1 := by omega
   go_wp2
   refine bodyPost_ret (v := .tuple #[At.v ⟨zt, ⟨#[]⟩, []⟩ (.slice none 0 0), .int .i64 125]) (by simp [results, Tryz.results20, go_sem, u0, u1, u2, u3, u4, zt]) rfl ⟨((((HW3.out.setCell hN _).setCell hN _).setCell hN _).setCell hN _).setCell hN _, ?_⟩
   rw [HE.out]
  case true =>
   have HN2 : Hid (∀ (k : Nat) (x : Te), k < j + 1 -> dt[k]? = some x -> x.holds = true) := HNX.out rfl
   go_wp2_with (go_at_call 43; refine (HCN.out _).mono ?_; rintro e w3 ⟨rfl, hb⟩; have HB3 : Hid (Below XD.heap.size XD w3) := below_step HBr.out hb; clear hb)
   go_roundg g
   case measure => omega
   case rel => exact ⟨j + 1, by omega, by go_num, HN2.out, HB3.out⟩
 | zero =>
 have hjl : j = d8 := by omega
 have k1 : ¬ ((j : Int) < (d8 : Int)) := by omega
 have HV6 : Hid ((mapC (ins V) KC).2.2.all Te.holds = true) := by
  show _ = _
  rw [<- HKT.out.1]
  exact allT fun k x hx => HCO.out k x (by have := (List.getElem?_eq_some_iff.1 hx).1; have := HLD.out.2; omega) hx
 clear HCO hjl HET
 have HSE : Hid (CBlk wr w.heap.size #[.int .i64 (n : Int), .slice a1 ln cap1, .slice a2 lu cap2] 48) := HSD.out.later HBr.out
 have HAE : Hid (CBlk wr (w.heap.size + 1) #[.int .i64 0, .int .i64 0, .string ⟨#[]⟩, .string ⟨#[]⟩, .slice none 0 0] 39) := HAD.out.later HBr.out
 have HDE : Hid (CBlk wr GD #[.int .i64 dk, .int .i64 dm, .string ds, .string dn, .slice d1 d2 d3, .slice d4 d5 d6, .slice d7 d8 d9] 60) := HDD.out.later HBr.out
 have HWE : Hid (Below w.heap.size w wr) := below_step HWD.out HBr.out
 have HKE : Hid (Kp (w.heap.size + 2) wr ⟨(⟨⟨dk, dm, ds⟩, dn, dl⟩, .slice d1 d2 d3), db, .slice d4 d5 d6, dt, .slice d7 d8 d9⟩) := HKD.out.later HBr.out
 clear HSD HAD HDD HWD HKD HBr HAB
 generalize wr = XE at *
 have HAB : Hid (As XE (.slice d4 d5 d6) db) := HKE.out.ok.b
 have HWD : Hid (Below w.heap.size w XE) := HWE.out
 obtain ⟨q0, q1, q2, q3, q4, q5, q6⟩ := cseven HDE.out
 clear hj
 go_wp2_with fail
 clear q0 q1 q2 q3 q4 q5 q6 k1
 go_loopg [14] d5 (fun g i wr => ∃ j : Nat, j + g = d5 /\ i = .int .i64 (j : Int) /\ (∀ k : Nat, k < j -> fitH (mapC (ins V) KC).2.1 U (fsts FL) k = true) /\ Below XE.heap.size XE wr)
 case atStart => exact ⟨0, by omega, rfl, (fun k hk => absurd hk (by omega)), Below.refl _ _⟩
 case round =>
 obtain ⟨j, hj, rfl, hco, hb⟩ := hrel
 have HCO : Hid (∀ k : Nat, k < j -> fitH (mapC (ins V) KC).2.1 U (fsts FL) k = true) := hco
 have HBr : Hid (Below XE.heap.size XE wr) := hb
 clear hco hb
 cases gk with
 | succ g =>
  have i1 : (j : Int) < (d5 : Int) := by omega
  have i0 : (0 : Int) <= (j : Int) := by omega
  obtain ⟨b1, o1, x, rfl, hx, hb1, ⟨e0, e1, e2, e3, e4⟩, hxt⟩ := (HAB.out.later HBr.out).get_ (j := j) (by omega)
  have hbl : d5 = lu := by
   have h1 := congrArg List.length HKT.out.2.1
   simp only [fsts, mapC, List.length_map] at h1
   have h2 := HV4.out
   have h3 := HLD.out.1
   have h4 := HLN.out.2.1
   omega
  obtain ⟨u, hu⟩ : ∃ u, U[j]? = some u := ⟨_, List.getElem?_eq_getElem (by have := HLN.out.2.1; omega)⟩
  obtain ⟨hu0, hu1⟩ := HUS.out j u hu
  obtain ⟨m, rfl⟩ := Int.eq_ofNat_of_zero_le hu0
  have hm : m < fn := by omega
  obtain ⟨ub, uo, rfl, hub, eu⟩ := (HNS.out.later (below_step HWE.out HBr.out)).cel hu
  obtain ⟨fb, fo, f, rfl, hf, hfb, hfe, hft⟩ := (HFL.out.later (below_step HWE.out HBr.out)).get_ (j := m) (by omega)
  have hfit : fitH (mapC (ins V) KC).2.1 U (fsts FL) j = decide (x.1 = f.1) := by
   unfold fitH
   rw [<- HKT.out.2.1, hu]
   simp only [fsts, List.getElem?_map, hx, Option.map_some, Option.bind_some, Int.toNat_natCast, hf]
   simp
  have hxz : szA x.1 := HSZ.out.2.1 x.1 (by rw [<- HKT.out.2.1]; exact List.mem_map.2 ⟨x, List.mem_of_getElem? hx, rfl⟩)
  have hfz : szA f.1 := HFZ.out f (List.mem_of_getElem? hf)
  have HSA0 := fun (Y : World) (hY : Below wr.heap.size wr Y) => rsameH_any x.1 f.1 x.2 f.2 Y (hxt.later hY) (hft.later hY) hxz hfz
  have HNX0 : Hid (decide (x.1 = f.1) = true -> ∀ k : Nat, k < j + 1 -> fitH (mapC (ins V) KC).2.1 U (fsts FL) k = true) := fun h0 k hk => by
   rcases Nat.lt_succ_iff_lt_or_eq.1 hk with hk | rfl
   ·exact HCO.out k hk
   ·rw [hfit]; exact h0
  have HNO : Hid (decide (x.1 = f.1) = false -> r = .error 126) := fun h0 => by
   rw [<- HR.out]
   refine ruleH_7 HC0.out HV2.out HV3.out HV4.out HV5.out HV6.out ?_
   refine allF (j := j) (x := j) ?_ (by rw [hfit]; exact h0)
   have hl : j < (mapC (ins V) KC).2.1.length := by rw [<- HKT.out.2.1]; simp only [fsts, List.length_map]; have := HLD.out.1; omega
   rw [List.getElem?_range hl]
  obtain ⟨q, hq⟩ : ∃ q, decide (x.1 = f.1) = q := ⟨_, rfl⟩
  rw [hq] at HNX0 HNO
  obtain ⟨x1, x3, ex⟩ := hxt.sl
  obtain ⟨f1, f3, ef⟩ := hft.sl
  clear hx hu hf hfit HCO hxz hfz
  obtain ⟨⟨⟨xk, xm, xs⟩, xn, xl⟩, xv⟩ := x
  obtain ⟨⟨⟨fk, fm, fs⟩, fnm, fl⟩, fv⟩ := f
  simp only at e0 e1 e2 e3 e4 hfe ex ef HSA0 hq hxt hft
  obtain ⟨x2, hx2⟩ : ∃ k, k = xl.length := ⟨_, rfl⟩
  obtain ⟨f2, hf2⟩ : ∃ k, k = fl.length := ⟨_, rfl⟩
  rw [<- hx2] at ex
  rw [<- hf2] at ef
  subst ex ef
  rw [hq] at HSA0
  have HSA1 : Hid (∀ Y : World, Below wr.heap.size wr Y -> Calls Tryz.prog 30 #[.agg #[.int .i64 xk, .int .i64 xm, .string xs, .string xn, .slice x1 x2 x3], .agg #[.int .i64 fk, .int .i64 fm, .string fs, .string fnm, .slice f1 f2 f3]] Y fun e w' => e = .returned (.bool q) /\ Below Y.heap.size Y w') := HSA0
  have HXC : Hid (b1 < wr.heap.size /\ wr.cell? ⟨b1, o1 + j * 5, none⟩ = some (.int .i64 xk) /\ wr.cell? ⟨b1, o1 + j * 5 + 1, none⟩ = some (.int .i64 xm) /\ wr.cell? ⟨b1, o1 + j * 5 + 2, none⟩ = some (.string xs) /\ wr.cell? ⟨b1, o1 + j * 5 + 3, none⟩ = some (.string xn) /\ wr.cell? ⟨b1, o1 + j * 5 + 4, none⟩ = some (.slice x1 x2 x3)) := ⟨hb1, e0, e1, e2, e3, e4⟩
  have HDW : Hid (CBlk wr GD #[.int .i64 dk, .int .i64 dm, .string ds, .string dn, .slice d1 d2 d3, .slice (some ⟨b1, o1, none⟩) d5 d6, .slice d7 d8 d9] 60) := HDE.out.later HBr.out
  have HAW : Hid (CBlk wr (w.heap.size + 1) #[.int .i64 0, .int .i64 0, .string ⟨#[]⟩, .string ⟨#[]⟩, .slice none 0 0] 39) := HAE.out.later HBr.out
  have HWW : Hid (Below w.heap.size w wr) := below_step HWE.out HBr.out
  have HUW : Hid (ub < wr.heap.size /\ wr.cell? ⟨ub, uo + j, none⟩ = some (.int .i64 (m : Int))) := ⟨hub, eu⟩
  have HFW : Hid (fb < wr.heap.size /\ wr.cell? ⟨fb, fo + m * 5, none⟩ = some (.int .i64 fk) /\ wr.cell? ⟨fb, fo + m * 5 + 1, none⟩ = some (.int .i64 fm) /\ wr.cell? ⟨fb, fo + m * 5 + 2, none⟩ = some (.string fs) /\ wr.cell? ⟨fb, fo + m * 5 + 3, none⟩ = some (.string fnm) /\ wr.cell? ⟨fb, fo + m * 5 + 4, none⟩ = some (.slice f1 f2 f3)) := ⟨hfb, hfe⟩
  have HSW : Hid (CBlk wr w.heap.size #[.int .i64 (n : Int), .slice a1 ln cap1, .slice (some ⟨ub, uo, none⟩) lu cap2] 48) := HSE.out.later HBr.out
  have j2 : (j : Int) < (lu : Int) := by omega
  have m0 : (0 : Int) <= (m : Int) := by omega
  have m1 : (m : Int) < (fn : Int) := by omega
  clear HSA0 hxt hft hfe hfb hub eu hq hx2 hf2 hu0 hu1 hm hbl
  have HSA : Hid (∀ Y : World, Below wr.heap.size wr Y -> Calls Tryz.prog 30 #[.agg #[.int .i64 xk, .int .i64 xm, .string xs, .string xn, .slice x1 x2 x3], .agg #[.int .i64 fk, .int .i64 fm, .string fs, .string fnm, .slice f1 f2 f3]] Y fun e w' => e = .returned (.bool q) /\ Below Y.heap.size Y w') := HSA1.out
  obtain ⟨z0, z1, z2, z3, z4, z5, z6⟩ := cseven HDW.out
  clear e0 e1 e2 e3 e4 hb1 HSA1
  go_upto_region 23 with fail
  clear z0 z1 z2 z3 z4 z5 z6
  refine wp_region_held_drew (S := fun w' => Below wr.heap.size wr w') (by kernel_rfl) (Below.refl _ _).drew (fun hH => ?_)
  revert hH
  generalize wr.drew = W9
  intro hH
  refine wTk 0 (.pointer (some ⟨GD, 5, none⟩)) rfl (by kernel_rfl) (fun _ _ _ h => h) (Or.inl ⟨by rfl, fun w' _ => by go_simp⟩) hH ?_
  simp only [wA8, wB8, wC8, wD8]
  refine wTk 1 (.slice (some ⟨b1, o1, none⟩) d5 d6) rfl (by kernel_rfl) (fun _ _ _ h => h) (Or.inl ⟨by rfl, fun w' h => by obtain ⟨q0, q1, q2, q3, q4, q5, q6⟩ := cseven (HDW.out.later h); clear h; go_simp⟩) hH ?_
  simp only [wA8, wB8, wC8, wD8]
  refine wTk 2 (.int .i64 (j : Int)) rfl (by kernel_rfl) (fun _ _ _ h => h) (Or.inl ⟨by rfl, fun w' _ => by go_simp⟩) hH ?_
  simp only [wA8, wB8, wC8, wD8]
  refine wTk 3 (.pointer (some ⟨b1, o1 + j * 5, none⟩)) rfl (by kernel_rfl) (fun _ _ _ h => h) (Or.inl ⟨by rfl, fun w' _ => by go_simp⟩) hH ?_
  simp only [wA8, wB8, wC8, wD8]
  refine wTk 4 (.agg #[.int .i64 xk, .int .i64 xm, .string xs, .string xn, .slice x1 x2 x3]) rfl (by kernel_rfl) (fun _ _ _ h => h) (Or.inl ⟨by rfl, fun w' h => by obtain ⟨z, q0, q1, q2, q3, q4⟩ := HXC.out; have y0 := cell_step h z q0; have y1 := cell_step h z q1; have y2 := cell_step h z q2; have y3 := cell_step h z q3; have y4 := cell_step h z q4; clear q0 q1 q2 q3 q4; go_simp⟩) hH ?_
  simp only [wA8, wB8, wC8, wD8]
  refine wTk 5 (.slice (some ⟨fb, fo, none⟩) fn fc) rfl (by kernel_rfl) (fun _ _ _ h => h) (Or.inl ⟨by rfl, fun w' _ => by go_simp⟩) hH ?_
  simp only [wA8, wB8, wC8, wD8]
  refine wTk 6 (.pointer (some ⟨w.heap.size, 2, none⟩)) rfl (by kernel_rfl) (fun _ _ _ h => h) (Or.inl ⟨by rfl, fun w' _ => by go_simp⟩) hH ?_
  simp only [wA8, wB8, wC8, wD8]
  refine wTk 7 (.slice (some ⟨ub, uo, none⟩) lu cap2) rfl (by kernel_rfl) (fun _ _ _ h => h) (Or.inl ⟨by rfl, fun w' h => by obtain ⟨q0, q1, q2⟩ := cthree (HSW.out.later h); clear h; go_simp⟩) hH ?_
  simp only [wA8, wB8, wC8, wD8]
  refine wTk 8 (.int .i64 (j : Int)) rfl (by kernel_rfl) (fun _ _ _ h => h) (Or.inl ⟨by rfl, fun w' _ => by go_simp⟩) hH ?_
  simp only [wA8, wB8, wC8, wD8]
  refine wTk 9 (.pointer (some ⟨ub, uo + j, none⟩)) rfl (by kernel_rfl) (fun _ _ _ h => h) (Or.inl ⟨by rfl, fun w' _ => by go_simp⟩) hH ?_
  simp only [wA8, wB8, wC8, wD8]
  refine wTk 10 (.int .i64 (m : Int)) rfl (by kernel_rfl) (fun _ _ _ h => h) (Or.inl ⟨by rfl, fun w' h => by have y1 := cell_step h HUW.out.1 HUW.out.2; clear h; go_simp⟩) hH ?_
  simp only [wA8, wB8, wC8, wD8]
  refine wTk 11 (.pointer (some ⟨fb, fo + m * 5, none⟩)) rfl (by kernel_rfl) (fun _ _ _ h => h) (Or.inl ⟨by rfl, fun w' _ => by go_simp⟩) hH ?_
  simp only [wA8, wB8, wC8, wD8]
  refine wTk 12 (.agg #[.int .i64 fk, .int .i64 fm, .string fs, .string fnm, .slice f1 f2 f3]) rfl (by kernel_rfl) (fun _ _ _ h => h) (Or.inl ⟨by rfl, fun w' h => by obtain ⟨z, q0, q1, q2, q3, q4⟩ := HFW.out; have y0 := cell_step h z q0; have y1 := cell_step h z q1; have y2 := cell_step h z q2; have y3 := cell_step h z q3; have y4 := cell_step h z q4; clear q0 q1 q2 q3 q4; go_simp⟩) hH ?_
  simp only [wA8, wB8, wC8, wD8]
  refine wRd 13 (by kernel_rfl) rfl (fun K hK => ?_)
  go_simp
  refine (HSA.out _ hH).mono ?_
  rintro e V1 ⟨rfl, hb⟩
  refine hK.out _ _ (below_step hH hb) (fun hH => ?_)
  clear hK K
  clear hb
  refine wTk 14 (.bool (!q)) rfl (by kernel_rfl) (fun _ _ _ h => h) (Or.inl ⟨by rfl, fun w' _ => by go_simp⟩) hH ?_
  simp only [wA8, wB8, wC8, wD8]
  refine wpAnyH_done (by kernel_rfl) ?_ _
  have HV : Hid (Below wr.heap.size wr V1) := hH
  clear hH
  have HW3 : Hid (Below w.heap.size w V1) := below_step HWW.out HV.out
  have HA3 : Hid (CBlk V1 (w.heap.size + 1) #[.int .i64 0, .int .i64 0, .string ⟨#[]⟩, .string ⟨#[]⟩, .slice none 0 0] 39) := HAW.out.later HV.out
  have HB3 : Hid (Below XE.heap.size XE V1) := below_step HBr.out HV.out
  clear HV
  generalize V1 = X9 at *
  cases q
  case false =>
   have HE : Hid (r = .error 126) := HNO.out rfl
   clear HNX0 HNO
   obtain ⟨u0, u1, u2, u3, u4⟩ := cfive HA3.out
   have s0 : X9.frozen? ⟨w.heap.size + 1, 0, none⟩ = false := (HA3.out).froz
   have s1 : X9.frozen? ⟨w.heap.size + 1, 1, none⟩ = false := (HA3.out).froz
   have s2 : X9.frozen? ⟨w.heap.size + 1, 2, none⟩ = false := (HA3.out).froz
   have s3 : X9.frozen? ⟨w.heap.size + 1, 3, none⟩ = false := (HA3.out).froz
   have s4 : X9.frozen? ⟨w.heap.size + 1, 4, none⟩ = false := (HA3.out).froz
   have hN : w.heap.size <= w.heap.size + 1 := by omega
   go_wp2
   refine bodyPost_ret (v := .tuple #[At.v ⟨zt, ⟨#[]⟩, []⟩ (.slice none 0 0), .int .i64 126]) (by simp [results, Tryz.results20, go_sem, u0, u1, u2, u3, u4, zt]) rfl ⟨((((HW3.out.setCell hN _).setCell hN _).setCell hN _).setCell hN _).setCell hN _, ?_⟩
   rw [HE.out]
  case true =>
   have HNX : Hid (∀ k : Nat, k < j + 1 -> fitH (mapC (ins V) KC).2.1 U (fsts FL) k = true) := HNX0.out rfl
   clear HNX0 HNO
   go_wp2
   go_roundg g
   case measure => omega
   case rel => exact ⟨j + 1, by omega, by go_num, HNX.out, HB3.out⟩
 | zero =>
 have hjl : j = d5 := by omega
 have k1 : ¬ ((j : Int) < (d5 : Int)) := by omega
 have HE : Hid (r = .ok ⟨⟨dk, dm, ds⟩, dn, dl⟩) := by
  show r = _
  rw [<- HR.out, HKT.out.2.2]
  refine ruleH_8 HC0.out HV2.out HV3.out HV4.out HV5.out HV6.out ?_
  rw [List.all_eq_true]
  intro k hk
  refine HCO.out k ?_
  rw [List.mem_range, <- HKT.out.2.1] at hk
  simp only [fsts, List.length_map] at hk
  have := HLD.out.1
  omega
 have HDZ : Hid (CBlk wr GD #[.int .i64 dk, .int .i64 dm, .string ds, .string dn, .slice d1 d2 d3, .slice d4 d5 d6, .slice d7 d8 d9] 60) := HDE.out.later HBr.out
 have HAZ : Hid (CBlk wr (w.heap.size + 1) #[.int .i64 0, .int .i64 0, .string ⟨#[]⟩, .string ⟨#[]⟩, .slice none 0 0] 39) := HAE.out.later HBr.out
 have HKZ : Hid (Kp (w.heap.size + 2) wr ⟨(⟨⟨dk, dm, ds⟩, dn, dl⟩, .slice d1 d2 d3), db, .slice d4 d5 d6, dt, .slice d7 d8 d9⟩) := HKE.out.later HBr.out
 have HWZ : Hid (Below w.heap.size w wr) := below_step HWE.out HBr.out
 clear HCO hjl HSE HAE HDE HWE HKE HBr HAB HWD
 obtain ⟨q0, q1, q2, q3, q4, q5, q6⟩ := cseven HDZ.out
 obtain ⟨p0, p1, p2, p3, p4⟩ := cfive HAZ.out
 have s0 : wr.frozen? ⟨w.heap.size + 1, 0, none⟩ = false := HAZ.out.froz
 have s1 : wr.frozen? ⟨w.heap.size + 1, 1, none⟩ = false := HAZ.out.froz
 have s2 : wr.frozen? ⟨w.heap.size + 1, 2, none⟩ = false := HAZ.out.froz
 have s3 : wr.frozen? ⟨w.heap.size + 1, 3, none⟩ = false := HAZ.out.froz
 have s4 : wr.frozen? ⟨w.heap.size + 1, 4, none⟩ = false := HAZ.out.froz
 go_wp2_with fail
 have hG : w.heap.size + 1 < w.heap.size + 2 := by omega
 have hN : w.heap.size <= w.heap.size + 1 := by omega
 refine bodyPost_ret (v := .tuple #[At.v ⟨⟨dk, dm, ds⟩, dn, dl⟩ (.slice d1 d2 d3), .int .i64 0]) (by simp [results, Tryz.results20, go_sem, p0, p1, p2, p3, p4]) rfl ⟨((((HWZ.out.setCell hN _).setCell hN _).setCell hN _).setCell hN _).setCell hN _, ?_⟩
 rw [HE.out]
 refine ⟨_, rfl, fun X' h1 h2 => ?_⟩
 exact (((((((HKZ.out.off hG).off hG).off hG).off hG).off hG).mono (show w.heap.size <= w.heap.size + 2 by omega)) X' h1 h2).h
theorem rstep_all (R : List Cm) (rv : Value) (s : St) (FL : List (At × Value)) (fv : Value) (w : World) (hR : CsP w rv R) (hs : s.ok w) (hF : As w fv FL) (hkp : ∀ c ∈ R, OKP w c) (hsz : ∀ c ∈ R, szK c.key) (hfz : ∀ x ∈ FL, szA x.1) :
  Calls Tryz.prog 20 #[rv, s.v, fv] w (SPH w (stepH (R.map Cm.key) s.key (fsts FL))) := by
 by_cases hp : 0 <= s.rule /\ s.rule < (R.length : Int)
 ·obtain ⟨n, hn⟩ := Int.eq_ofNat_of_zero_le hp.1
  have hl : n < R.length := by omega
  have hc : R[n]? = some R[n] := List.getElem?_eq_getElem hl
  have e : stepH (R.map Cm.key) s.key (fsts FL) = ruleH R[n].key s.vals s.uses (fsts FL) := stepH_some hp.1 (by
   show (R.map Cm.key)[s.rule.toNat]? = _
   rw [hn, Int.toNat_natCast, List.getElem?_map, hc]; rfl)
  rw [e]
  exact rstep_go R rv s n _ FL fv w hR hs hF hn hc (hkp _ (List.mem_of_getElem? hc)) (hsz _ (List.mem_of_getElem? hc)) hfz
 ·obtain ⟨ra, rc, rfl⟩ := hR.form
  exact rstep_no (R.map Cm.key) s (fsts FL) ra R.length rc fv w hs (by simp) hp
end Go.Proofs.YtcejljehjhlonaaGreatDoor
