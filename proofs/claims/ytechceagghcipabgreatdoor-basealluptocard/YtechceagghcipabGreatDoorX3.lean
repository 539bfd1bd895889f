import Derived.Test.YtechceagghcipabGreatDoorRA2
import Derived.Test.YtechceagghcipabGreatDoorX2
import Derived.Test.YtechceagghcipabGreatDoorT5
import Derived.Test.YtechceagghcipabGreatDoorL3
import Derived.Test.YtechceagghcipabGreatDoorA1
import Derived.Test.YtechceagghcipabGreatDoorEB6
import Derived.Test.YtechceagghcipabGreatDoorT2
import Derived.Deep.AppendLies
namespace Go.Proofs.YtechceagghcipabGreatDoor
open Go.RowKit
attribute [local go_sem ↓] Go.wp_at_zero Go.wp_at_succ
theorem own_mono {w : World} {b b' : Nat} {v : Value} {l : List Bd} (h : Own w b v l) (hb : b' <= b) : Own w b' v l := by
 refine ⟨h.1, ?_⟩
 rcases h.2 with hn | ⟨g, cap, cur, hv, hbb, rest⟩
 ·exact Or.inl hn
 ·exact Or.inr ⟨g, cap, cur, hv, Nat.le_trans hb hbb, rest⟩
theorem tso_len' {w : World} {v : Value} {l : List Tm} (h : TsO w v l) : l.length <= 4398046511104 := by
 rcases h with ⟨-, h⟩ | ⟨ad, cap, h1, h2, h3⟩
 ·rw [h]; simp
 ·omega
set_option maxHeartbeats 1000000 in
theorem rsame_any (p a : At) (x y : Value) (w : World) (hx : Ts w x p.args) (hy : Ts w y a.args) (sp : ∀ t ∈ p.pl, t.s.size <= maxLen) (sa : ∀ t ∈ a.pl, t.s.size <= maxLen) (np : p.name.size <= maxLen) (na : a.name.size <= maxLen) :
  Calls Tryz.prog 39 #[p.v x, a.v y] w fun e w' => e = .returned (.bool (decide (p = a))) /\ Below w.heap.size w w' := by
 have cc := fun (X : World) (h : Below w.heap.size w X) => rcmpA_any p a x y X (hx.later h) (hy.later h) sp sa np na
 obtain ⟨c, hc⟩ : ∃ c, p.cmp a = c := ⟨_, rfl⟩
 have hq : (c == 0) = decide (p = a) := by
  by_cases h : p = a
  ·rw [decide_eq_true h]
   rw [h, ord_at.refl] at hc
   rw [<- hc]; rfl
  ·rw [decide_eq_false h]
   exact beq_eq_false_iff_ne.2 fun h0 => h (ord_at.zero _ _ (by rw [hc]; exact h0))
 obtain ⟨r, hr⟩ : ∃ r, decide (p = a) = r := ⟨_, rfl⟩
 rw [hr] at hq ⊢
 rw [hc] at cc
 have CC : Hid _ := cc
 obtain ⟨⟨k, n, ss⟩, nm, l⟩ := p
 obtain ⟨⟨k', n', ss'⟩, nm', l'⟩ := a
 clear cc hc hr hx hy sp sa np na
 go_enter Tryz.func39, Tryz.ntmps39
 go_wp2_with (go_at_call 38; refine (CC.out _ (below2 _ _ _)).mono ?_; rintro e w1 ⟨rfl, hb1⟩)
 go_ret
 exact ⟨ret_b (by first | exact hq | rfl), below_step (below2 _ _ _) hb1⟩
theorem rGo_sz : ∀ (r : List (Tm × Tm)) (all : List Bd), (∀ d ∈ all, d.to.s.size <= maxLen) -> (∀ y ∈ r, y.2.s.size <= maxLen) -> ∀ d ∈ rGo all r, d.to.s.size <= maxLen := by
 intro r
 induction r with
 | nil => intro all h _; exact h
 | cons y r ih =>
  intro all h hr
  refine ih (rS all y) (fun d hd => ?_) (fun z hz => hr z (List.mem_cons_of_mem _ hz))
  unfold rS at hd
  split at hd
  ·rcases List.mem_append.1 hd with hd | hd
   ·exact h d hd
   ·rw [List.mem_singleton.1 hd]; exact hr y List.mem_cons_self
  ·exact h d hd
theorem become_sz {all : List Bd} {t : Tm} (h : ∀ d ∈ all, d.to.s.size <= maxLen) (ht : t.s.size <= maxLen) : (become all t).s.size <= maxLen := by
 unfold become
 split
 ·cases e : look all t.n with
  | none => exact ht
  | some q => exact h ⟨t.n, q⟩ (mem_look e)
 ·exact ht
theorem made_sz {p a : At} {s : List Bd} (hs : ∀ d ∈ s, d.to.s.size <= maxLen) (sp : ∀ t ∈ p.pl, t.s.size <= maxLen) (sa : ∀ t ∈ a.pl, t.s.size <= maxLen) : ∀ t ∈ (p.made (rAll p a s)).pl, t.s.size <= maxLen := by
 intro t ht
 rw [made_pl] at ht
 obtain ⟨u, hu, rfl⟩ := List.mem_map.1 ht
 exact become_sz (rGo_sz _ _ hs fun y hy => sa _ (List.of_mem_zip hy).2) (sp u hu)
theorem rGo_take (s : List Bd) (r : List (Tm × Tm)) (j : Nat) (y : Tm × Tm) (h : r[j]? = some y) : rGo s (r.take (j + 1)) = rS (rGo s (r.take j)) y := by
 obtain ⟨hj, rfl⟩ := List.getElem?_eq_some_iff.1 h
 rw [List.take_succ_eq_append_getElem hj, rGo, List.foldl_append]; rfl
theorem rS_len (l : List Bd) (y : Tm × Tm) : (rS l y).length <= l.length + 1 := by unfold rS; split <;> simp
theorem rGo_len (r : List (Tm × Tm)) : ∀ s : List Bd, (rGo s r).length <= s.length + r.length := by
 induction r with
 | nil => intro s; exact Nat.le_refl _
 | cons y r ih => intro s; have := ih (rS s y); have := rS_len s y; simp only [rGo, List.foldl_cons, List.length_cons] at *; omega
def RMPost (w : World) (p a : At) (s : List Bd) (e : Ending) (w' : World) : Prop := Below w.heap.size w w' ∧
 (((rOk p a = false ∨ ¬ p.made (rAll p a s) = a) /\ e = .returned (.tuple #[.slice none 0 0, .bool false])) ∨
 (rOk p a = true /\ p.made (rAll p a s) = a /\ ∃ v' l, e = .returned (.tuple #[v', .bool true]) /\ Own w' w.heap.size v' l /\ up l /\ (∀ x, look l x = look (rAll p a s) x) /\ l.length <= s.length + p.args.length + 1))
set_option maxRecDepth 20000 in
set_option maxHeartbeats 1000000 in
theorem rmatch_any (p a : At) (s : List Bd) (x y v : Value) (w : World) (hx : TsO w x p.args) (hy : TsO w y a.args) (hv : BsO w v s) (hlen : s.length + p.args.length + 1 <= 1000000000000)
  (sp : ∀ t ∈ p.pl, t.s.size <= maxLen) (sa : ∀ t ∈ a.pl, t.s.size <= maxLen) (hss : ∀ d ∈ s, d.to.s.size <= maxLen) (np : p.name.size <= maxLen) (na : a.name.size <= maxLen) :
  Calls Tryz.prog 56 #[p.v x, a.v y, v] w (RMPost w p a s) := by
 obtain ⟨i0, hi0, hz0, hz1, hz2⟩ := info_parts Tryz.infoBind
 have hpx := fun (X : World) (h : Below w.heap.size w X) => rplaces_any p x X (hx.later h)
 have hpy := fun (X : World) (h : Below w.heap.size w X) => rplaces_any a y X (hy.later h)
 have hms := made_sz (p := p) (a := a) hss sp sa
 obtain ⟨P, hP⟩ : ∃ P, P = p := ⟨_, rfl⟩
 obtain ⟨A, hA⟩ : ∃ A, A = a := ⟨_, rfl⟩
 obtain ⟨pl, hpl⟩ : ∃ pl, pl = p.pl := ⟨_, rfl⟩
 obtain ⟨al, hal⟩ : ∃ al, al = a.pl := ⟨_, rfl⟩
 obtain ⟨rk, hrk⟩ : ∃ r, rOk p a = r := ⟨_, rfl⟩
 rw [<- hpl] at hpx
 rw [<- hal] at hpy
 have hrs := fun (X : World) (z : Value) (h : Below w.heap.size w X) (hz : Ts X z (p.made (rAll p a s)).args) => rsame_any (p.made (rAll p a s)) a z y X hz (hy.later h).ts hms sa np na
 have hap : ∀ X u all, Below w.heap.size w X -> Bs X u all -> Calls Tryz.prog 73 #[u, p.v x] X fun e w' => ∃ z, e = .returned ((p.made all).v z) /\ Ts w' z (p.made all).args /\ Below X.heap.size X w' := fun X u all h hu => rapply_any all u p x X hu (hx.later h).ts (by omega)
 obtain ⟨⟨⟨mk, mn, mz⟩, mm, ml⟩, hM⟩ : ∃ M, p.made (rAll p a s) = M := ⟨_, rfl⟩
 rw [hM] at hrs
 obtain ⟨⟨k, n, ss⟩, nm, l⟩ := p
 obtain ⟨⟨k', n', ss'⟩, nm', l'⟩ := a
 rw [show RMPost w ⟨⟨k, n, ss⟩, nm, l⟩ ⟨⟨k', n', ss'⟩, nm', l'⟩ s = RMPost w P A s by rw [hP, hA]]
 have HX : Hid (TsO w x l) := hx
 have HY : Hid (TsO w y l') := hy
 have HV : Hid (BsO w v s) := hv
 have hx1 : ∃ ad cap, x = .slice ad l.length cap := by obtain ⟨ad, cap, h, -⟩ := hx.ts; exact ⟨ad, cap, h⟩
 have hy1 : ∃ ad cap, y = .slice ad l'.length cap := by obtain ⟨ad, cap, h, -⟩ := hy.ts; exact ⟨ad, cap, h⟩
 obtain ⟨xa, xc, rfl⟩ := hx1
 obtain ⟨ya, yc, rfl⟩ := hy1
 have hll' : l'.length <= 4398046511104 := tso_len' hy
 simp only at hlen
 have HPX : Hid _ := hpx
 have HPY : Hid _ := hpy
 have HRS : Hid _ := hrs
 have HAP : Hid _ := hap
 have HM : Hid (P.made (rAll P A s) = ⟨⟨mk, mn, mz⟩, mm, ml⟩) := by rw [hP, hA]; exact hM
 have HA' : Hid (A = ⟨⟨k', n', ss'⟩, nm', l'⟩) := hA
 have HP' : Hid (P = ⟨⟨k, n, ss⟩, nm, l⟩) := hP
 have HAll : Hid (rAll P A s = rGo s (pl.zip al)) := by show _ = _; rw [hP, hA, hpl, hal]; rfl
 have HRK : Hid (rOk P A = rk) := by show _ = _; rw [hP, hA]; exact hrk
 have hn1 : pl.length = l.length + 1 := by rw [hpl]; simp [At.pl]
 have hn2 : al.length = l'.length + 1 := by rw [hal]; simp [At.pl]
 have HN1 : Hid (pl.length = l.length + 1) := hn1
 have HN2 : Hid (al.length = l'.length + 1) := hn2
 have hRK : rk = ((nm.toList == nm'.toList && l.length == l'.length) && !(Tm.var ⟨k, n, ss⟩ && decide (k' = 0))) := by rw [<- hrk]; rfl
 have HRK2 : Hid (rk = ((nm.toList == nm'.toList && l.length == l'.length) && !(Tm.var ⟨k, n, ss⟩ && decide (k' = 0)))) := hRK
 clear hpx hpy hms hrs hap hM hP hA hpl hal hrk hx hy hv sp sa hss np na hn1 hn2 hRK
 go_enter Tryz.func56, Tryz.ntmps56
 go_upto_region 1 with fail
 have hb0 := below2 w (.cells #[.int .i64 k, .int .i64 n, .string ss, .string nm, .slice xa l.length xc] 33) (.cells #[.int .i64 k', .int .i64 n', .string ss', .string nm', .slice ya l'.length yc] 33)
 have BP := Blk.old w #[.int .i64 k, .int .i64 n, .string ss, .string nm, .slice xa l.length xc] 33 (.cells #[.int .i64 k', .int .i64 n', .string ss', .string nm', .slice ya l'.length yc] 33)
 have BA := Blk.new2 w #[.int .i64 k', .int .i64 n', .string ss', .string nm', .slice ya l'.length yc] 33 (.cells #[.int .i64 k, .int .i64 n, .string ss, .string nm, .slice xa l.length xc] 33)
 revert hb0 BP BA
 generalize (w.alloc (.cells #[.int .i64 k, .int .i64 n, .string ss, .string nm, .slice xa l.length xc] 33)).alloc (.cells #[.int .i64 k', .int .i64 n', .string ss', .string nm', .slice ya l'.length yc] 33) = W1
 intro hb0 BP BA
 have BP : Hid (Blk W1 _ _ _) := BP
 have BA : Hid (Blk W1 _ _ _) := BA
 have BW : Hid (Below w.heap.size w W1) := hb0
 clear hb0
 go_cut [38] from 14 to 38 (fun s38 wx => s38 = .bool (!rk) /\ Below W1.heap.size W1 wx)
 case first =>
  obtain ⟨p0, p1, p2, p3, p4⟩ := five (Hid.out BP)
  obtain ⟨q0, q1, q2, q3, q4⟩ := five (Hid.out BA)
  cases e1 : (nm.toList == nm'.toList)
  ·have e1n : (nm.toList != nm'.toList) = true := by rw [bne, e1]; rfl
   have HRR : Hid (rk = false) := by show _ = _; rw [HRK2.out, e1]; rfl
   go_wp2_with fail
   go_meet
   case rel => exact ⟨by rw [HRR.out]; rfl, Below.refl _ _⟩
  ·have e1n : (nm.toList != nm'.toList) = false := by rw [bne, e1]; rfl
   by_cases e2 : l.length = l'.length
   ·have z2 : ((l.length : Int) == (l'.length : Int)) = true := by simp [e2]
    have z2n : ((l.length : Int) != (l'.length : Int)) = false := by simp [e2]
    have HRR : Hid (rk = !(Tm.var ⟨k, n, ss⟩ && decide (k' = 0))) := by show _ = _; rw [HRK2.out, e1, show (l.length == l'.length) = true by simp [e2]]; rfl
    clear e2
    cases hv : Tm.var ⟨k, n, ss⟩
    ·have HVV : Hid (Tm.var ⟨k, n, ss⟩ = false) := hv
     have HR3 : Hid (rk = true) := by show _ = _; rw [HRR.out, hv]; rfl
     clear hv
     go_wp2_with (go_at_call 90; refine (rvar_any ⟨k, n, ss⟩ _).mono ?_; rw [HVV.out]; rintro e w2 ⟨rfl, hb2⟩)
     go_meet
     case rel => exact ⟨by rw [HR3.out]; rfl, hb2⟩
    ·have HVV : Hid (Tm.var ⟨k, n, ss⟩ = true) := hv
     obtain ⟨kb, hkb⟩ : ∃ b, decide (k' = 0) = b := ⟨_, rfl⟩
     have z3 : (k' == 0) = kb := by rw [<- hkb]; by_cases h : k' = 0 <;> simp [h]
     have HR3 : Hid (rk = !kb) := by show _ = _; rw [HRR.out, hv, hkb]; rfl
     clear hv hkb
     go_wp2_with (go_at_call 90; refine (rvar_any ⟨k, n, ss⟩ _).mono ?_; rw [HVV.out]; rintro e w2 ⟨rfl, hb2⟩; clear q0 q1 q2 q3 q4; obtain ⟨q0, q1, q2, q3, q4⟩ := five (Blk.later (Hid.out BA) hb2))
     go_meet
     case rel => exact ⟨by rw [HR3.out]; simp, hb2⟩
   ·have z2 : ((l.length : Int) == (l'.length : Int)) = false := beq_eq_false_iff_ne.2 (by omega)
    have z2n : ((l.length : Int) != (l'.length : Int)) = true := by rw [bne, z2]; rfl
    have HRR : Hid (rk = false) := by show _ = _; rw [HRK2.out, e1, show (l.length == l'.length) = false from beq_eq_false_iff_ne.2 e2]; rfl
    clear e2
    go_wp2_with fail
    go_meet
    case rel => exact ⟨by rw [HRR.out]; rfl, Below.refl _ _⟩
 case rest =>
  obtain ⟨rfl, hbc⟩ := hcut
  have BP : Hid (Blk wc _ _ _) := Blk.later (Hid.out BP) hbc
  have BA : Hid (Blk wc _ _ _) := Blk.later (Hid.out BA) hbc
  have BW : Hid (Below w.heap.size w wc) := below_step (Hid.out BW) hbc
  clear hbc
  obtain ⟨W2, hW2⟩ : ∃ W2, W2 = wc := ⟨_, rfl⟩
  subst hW2
  cases rk
  ·go_wp2
   exact bodyPost_ret (v := .tuple #[.slice none 0 0, .bool false]) (by simp [results, Tryz.results56, go_sem]) rfl ⟨Hid.out BW, Or.inl ⟨Or.inl HRK.out, rfl⟩⟩
  ·have HLE : Hid (l.length = l'.length) := by
    have h := HRK2.out
    show _ = _
    cases e2 : (l.length == l'.length)
    ·rw [e2] at h; simp at h
    ·exact eq_of_beq e2
   clear HRK2
   go_upto_region 4 with fail
   go_cut [8] from 39 to 41 (fun s8 wx => Own wx W2.heap.size s8 s /\ Below W2.heap.size W2 wx)
   case first =>
    rcases HV.out with ⟨rfl, hs0⟩ | ⟨ad, cap, rfl, hl, h⟩
    ·have HS0 : Hid (s = []) := hs0
     clear hs0
     go_wp2_with (at_builtin; refine wpList_append_own_none _ _ _ _ rfl W2.heap.size 144 i0 4 Tryz.underlying96 hi0 (.slice none 0 0) 0 [] (by rfl) (World.ownsRow_nil _ _ _ _) (by rfl) ?_)
     go_meet
     case rel => exact ⟨by rw [HS0.out]; exact own_nil _ _, Below.refl _ _⟩
    ·have hnw : ∀ j u, (bcs s)[j]? = some u -> W2.cell? (ad.add j) = some u := by
      rcases h with h | ⟨b, o, rfl, h⟩
      ·subst h; intro j u hu; simp [bcs] at hu
      ·exact brow_get (h.later (Hid.out BW))
     have HN : Hid _ := hnw
     clear h hnw
     go_wp2_with (at_builtin; refine wpList_append_own _ rfl _ _ _ rfl W2.heap.size 144 i0 _ 4 40 Tryz.underlying96 hi0 hz0 hz1 hz2 rfl (by omega) (.slice none 0 0) 0 [] (by rfl) (World.ownsRow_nil _ _ _ _) ad s.length cap (bcs s) (by rfl) (bcs_len s) HN.out (fun u hu => bcs_mem hu) (by unfold maxLen; omega) (by omega) (Nat.le_refl _) ?_; intro v1 w1 hown hgrow hnil; rw [Nat.zero_add, List.nil_append] at hown)
     go_meet
     case rel => exact ⟨hown, (Below.refl _ _).grown hgrow (Nat.le_refl _) (fun q e => by simp [Value.ownBlock] at e)⟩
   case rest =>
    obtain ⟨ho, hbc⟩ := hcut
    obtain ⟨W3, hW3⟩ : ∃ W3, W3 = wc := ⟨_, rfl⟩
    subst hW3
    have BP3 : Hid (Blk W3 _ _ _) := Blk.later (Hid.out BP) hbc
    have BA3 : Hid (Blk W3 _ _ _) := Blk.later (Hid.out BA) hbc
    have BW3 : Hid (Below w.heap.size w W3) := below_step (Hid.out BW) hbc
    have HO3 : Hid (Own W3 W2.heap.size u8 s) := ho
    have hub := fun kk hk => (ho.lt kk hk).2
    have hB3 : W2.heap.size <= W3.heap.size := hbc.size
    have BB3 : Hid (Below W2.heap.size W2 W3) := hbc
    obtain ⟨p0, p1, p2, p3, p4⟩ := five (Hid.out BP3)
    clear ho hbc
    go_upto_region 6 with (go_at_call 91; refine (HPX.out _ (Hid.out BW3)).mono ?_; rintro e w4 ⟨lx, rfl, hox, hb4⟩)
    obtain ⟨gx, cx, rfl, hgx, hgx4⟩ := World.ownsRow.form hox (by have := HN1.out; omega)
    obtain ⟨q0, q1, q2, q3, q4⟩ := five (Blk.later (Hid.out BA3) hb4)
    have HOX4 : Hid (OwnT w4 W3.heap.size (.slice (some ⟨gx, 0, none⟩) pl.length cx) pl) := hox
    have BW4 : Hid (Below w.heap.size w w4) := below_step (Hid.out BW3) hb4
    have HB4 : Hid (Below W3.heap.size W3 w4) := hb4
    have hs4 : W3.heap.size <= w4.heap.size := hb4.size
    clear p0 p1 p2 p3 p4 hox hb4
    go_upto_region 7 with (go_at_call 91; refine (HPY.out _ (Hid.out BW4)).mono ?_; rintro e w5 ⟨ly, rfl, hoy, hb5⟩)
    obtain ⟨gy, cy, rfl, hgy, hgy5⟩ := World.ownsRow.form hoy (by have := HN2.out; omega)
    have hb35 := below_step (Hid.out HB4) hb5
    have O8 : Own w5 W2.heap.size u8 s := HO3.out.later hb35
    have OX : OwnT w5 W2.heap.size (.slice (some ⟨gx, 0, none⟩) pl.length cx) pl := (HOX4.out.later hb5).mono hB3
    have OY : OwnT w5 W2.heap.size (.slice (some ⟨gy, 0, none⟩) al.length cy) al := OwnT.mono hoy (by omega)
    have B25 : Below W2.heap.size W2 w5 := (Hid.out BB3).trans (hb35.mono hB3)
    clear q0 q1 q2 q3 q4 hoy hb5 hb35 HOX4 HB4 BW4 BP3 BA3 BW3 BB3 HO3
    have n1 : u8.ownBlock ≠ some gx := fun h => by have := hub gx h; omega
    have n2 : u8.ownBlock ≠ some gy := fun h => by have := hub gy h; omega
    have hple : pl.length = al.length := by have h1 := HN1.out; have h2 := HN2.out; have h3 := HLE.out; omega
    have HPL : Hid (pl.length = al.length) := hple
    have hpn : pl.length <= 1000000000001 := by have := HN1.out; omega
    have hsp : s.length + pl.length <= 1000000000000 := by have := HN1.out; omega
    clear hub hple
    go_wp2
    go_loopg [8, 11] pl.length (fun g u i wr => ∃ j : Nat, j + g = pl.length /\ i = .int .i64 j /\ Own wr W2.heap.size u (rGo s ((pl.zip al).take j)) /\ u.ownBlock ≠ some gx /\ u.ownBlock ≠ some gy /\ OwnT wr W2.heap.size (.slice (some ⟨gx, 0, none⟩) pl.length cx) pl /\ OwnT wr W2.heap.size (.slice (some ⟨gy, 0, none⟩) al.length cy) al /\ Below W2.heap.size W2 wr)
    case atStart => exact ⟨0, by omega, rfl, O8, n1, n2, OX, OY, B25⟩
    case round =>
     obtain ⟨j, hj, rfl, hown, m1, m2, hox, hoy, hbr⟩ := hrel
     clear O8 OX OY B25 n1 n2
     have hwr : Hid (Below w.heap.size w wr) := below_step (Hid.out BW) hbr
     have hgxr : gx < wr.heap.size := (hox.lt gx rfl).2
     have hgyr : gy < wr.heap.size := (hoy.lt gy rfl).2
     cases gk with
     | succ g =>
      have hlt : j < pl.length := by omega
      have hlt' : j < al.length := by have := HPL.out; omega
      obtain ⟨t, ht⟩ : ∃ t, pl[j]? = some t := ⟨_, List.getElem?_eq_getElem hlt⟩
      obtain ⟨q, hq⟩ : ∃ q, al[j]? = some q := ⟨_, List.getElem?_eq_getElem hlt'⟩
      have hz : (pl.zip al)[j]? = some (t, q) := by rw [List.getElem?_zip_eq_some]; exact ⟨ht, hq⟩
      have HS0 := rGo_take s (pl.zip al) j (t, q) hz
      have HL0 := rGo_len ((pl.zip al).take j) s
      rw [List.length_take] at HL0
      obtain ⟨c0, c1, c2⟩ := ownT_cells hox j t ht
      generalize rGo s ((pl.zip al).take j) = out at hown HS0 HL0
      have hol : out.length <= 1000000000000 := by omega
      obtain ⟨ua, uc, rfl⟩ := own_len hown
      have HT : Hid (pl[j]? = some t) := ht
      have HQ : Hid (al[j]? = some q) := hq
      obtain ⟨tk, tn, tz⟩ := t
      obtain ⟨qk, qn, qz⟩ := q
      simp only at c0 c1 c2
      have HS : Hid (rGo s ((pl.zip al).take (j + 1)) = rS out (⟨tk, tn, tz⟩, ⟨qk, qn, qz⟩)) := HS0
      have HO : Hid (Own wr W2.heap.size (.slice ua out.length uc) out) := hown
      have HOX : Hid (OwnT wr W2.heap.size (.slice (some ⟨gx, 0, none⟩) pl.length cx) pl) := hox
      have HOY : Hid (OwnT wr W2.heap.size (.slice (some ⟨gy, 0, none⟩) al.length cy) al) := hoy
      have HBr : Hid (Below W2.heap.size W2 wr) := hbr
      have M1 : Hid ((Value.slice ua out.length uc).ownBlock ≠ some gx) := m1
      have M2 : Hid ((Value.slice ua out.length uc).ownBlock ≠ some gy) := m2
      have hszr : W2.heap.size <= wr.heap.size := hbr.size
      clear HS0 HL0 ht hq hz hown hox hoy hbr m1 m2
      have i1 : (0 : Int) <= (j : Int) := by omega
      have i2 : (j : Int) < (pl.length : Int) := by omega
      have i3 : (j : Int) < (al.length : Int) := by omega
      obtain ⟨⟨lk, ln, lz⟩, hlt0⟩ : ∃ t, lookT out tn = t := ⟨_, rfl⟩
      obtain ⟨lb, hlb⟩ : ∃ b, lookB out tn = b := ⟨_, rfl⟩
      have HLT : Hid (lookT out tn = ⟨lk, ln, lz⟩) := hlt0
      have HLB : Hid (lookB out tn = lb) := hlb
      clear hlt0 hlb
      go_upto_region 11 with (go_at_call 92; refine (rlook_any out _ tn _ (HO.out.bs (by omega))).mono ?_; rw [HLT.out, HLB.out]; rintro e w6 ⟨rfl, hb6⟩)
      have hb7 := below1 w6 (.cells #[.int .i64 lk, .int .i64 ln, .string lz] 30)
      revert hb7
      generalize w6.alloc (.cells #[.int .i64 lk, .int .i64 ln, .string lz] 30) = w7
      intro hb7
      have hb67 := below_step hb6 hb7
      have d0 := cell_step hb67 hgxr c0
      have d1 := cell_step hb67 hgxr c1
      have d2 := cell_step hb67 hgxr c2
      have g7 := lt_step hb67 hgxr
      have HB7 : Hid (Below wr.heap.size wr w7) := hb67
      clear c0 c1 c2 hb6 hb7 hb67
      cases hv : Tm.var ⟨tk, tn, tz⟩
      ·have HVt : Hid (Tm.var ⟨tk, tn, tz⟩ = false) := hv
       clear hv
       go_wp2_with (go_at_call 90; refine (rvar_any ⟨tk, tn, tz⟩ _).mono ?_; rw [HVt.out]; rintro e w8 ⟨rfl, hb8⟩)
       have b8 := below_step (Hid.out HB7) hb8
       go_roundg g
       case measure => omega
       case rel => exact ⟨j + 1, by omega, by go_num, by rw [HS.out, rS_not HVt.out]; exact HO.out.later b8, M1.out, M2.out, HOX.out.later b8, HOY.out.later b8, (Hid.out HBr).trans (b8.mono hszr)⟩
      ·have HVt : Hid (Tm.var ⟨tk, tn, tz⟩ = true) := hv
       clear hv
       cases lb
       ·have HNo : Hid (look out tn = none) := by
         have h := HLB.out; unfold lookB at h
         show _ = _
         cases e : look out tn with
         | none => rfl
         | some q => rw [e] at h; cases h
        go_upto_region 12 with (go_at_call 90; refine (rvar_any ⟨tk, tn, tz⟩ _).mono ?_; rw [HVt.out]; rintro e w8 ⟨rfl, hb8⟩)
        have b8 := below_step (Hid.out HB7) hb8
        have oX := HOX.out.later b8
        have oY := HOY.out.later b8
        have oA := HO.out.later b8
        have B8 : Below W2.heap.size W2 w8 := (Hid.out HBr).trans (b8.mono hszr)
        clear d0 d1 d2 hb8 b8
        refine wp_region_held_drew (S := fun w' => Below W2.heap.size W2 w' /\ OwnT w' W2.heap.size (.slice (some ⟨gx, 0, none⟩) pl.length cx) pl /\ OwnT w' W2.heap.size (.slice (some ⟨gy, 0, none⟩) al.length cy) al) (by kernel_rfl) ⟨B8.drew, oX.drew, oY.drew⟩ (fun hH => ?_)
        have oA := oA.drew
        have m8 : W2.heap.size <= w8.drew.heap.size := B8.drew.size
        have gx8 : gx < w8.drew.heap.size := (oX.drew.lt gx rfl).2
        have gy8 : gy < w8.drew.heap.size := (oY.drew.lt gy rfl).2
        revert hH oA m8 gx8 gy8
        generalize w8.drew = V
        intro hH oA m8 gx8 gy8
        clear oX oY B8
        refine wTl 0 (.slice ua out.length uc) rfl (by kernel_rfl) (fun _ _ _ h => h) rfl (fun w' _ => by go_simp) hH ?_
        simp only [wA, wB, wC, wD]
        refine wTl 1 (.slice (some ⟨gx, 0, none⟩) pl.length cx) rfl (by kernel_rfl) (fun _ _ _ h => h) rfl (fun w' _ => by go_simp) hH ?_
        simp only [wA, wB, wC, wD]
        refine wTl 2 (.int .i64 j) rfl (by kernel_rfl) (fun _ _ _ h => h) rfl (fun w' _ => by go_simp) hH ?_
        simp only [wA, wB, wC, wD]
        refine wTl 3 (.pointer (some ⟨gx, j * 3, none⟩)) rfl (by kernel_rfl) (fun _ _ _ h => h) rfl (fun w' _ => by go_simp) hH ?_
        simp only [wA, wB, wC, wD]
        refine wTl 4 (.pointer (some ⟨gx, j * 3 + 1, none⟩)) rfl (by kernel_rfl) (fun _ _ _ h => h) rfl (fun w' _ => by go_simp) hH ?_
        simp only [wA, wB, wC, wD]
        refine wTl 5 (.int .i64 tn) rfl (by kernel_rfl) (fun _ _ _ h => h) rfl (fun w' h => by obtain ⟨a0, a1, a2⟩ := ownT_cells h.2.1 j _ HT.out; go_simp) hH ?_
        simp only [wA, wB, wC, wD]
        refine wTl 6 (.slice (some ⟨gy, 0, none⟩) al.length cy) rfl (by kernel_rfl) (fun _ _ _ h => h) rfl (fun w' _ => by go_simp) hH ?_
        simp only [wA, wB, wC, wD]
        refine wTl 7 (.int .i64 j) rfl (by kernel_rfl) (fun _ _ _ h => h) rfl (fun w' _ => by go_simp) hH ?_
        simp only [wA, wB, wC, wD]
        refine wTl 8 (.pointer (some ⟨gy, j * 3, none⟩)) rfl (by kernel_rfl) (fun _ _ _ h => h) rfl (fun w' _ => by go_simp) hH ?_
        simp only [wA, wB, wC, wD]
        refine wTl 9 (Tm.v ⟨qk, qn, qz⟩) rfl (by kernel_rfl) (fun _ _ _ h => h) rfl (fun w' h => by obtain ⟨a0, a1, a2⟩ := ownT_cells h.2.2 j _ HQ.out; go_simp) hH ?_
        simp only [wA, wB, wC, wD]
        refine wTl 10 (.agg #[.int .i64 tn, .int .i64 qk, .int .i64 qn, .string qz]) rfl (by kernel_rfl) (fun _ _ _ h => h) rfl (fun w' _ => by go_simp) hH ?_
        simp only [wA, wB, wC, wD]
        refine wRd 11 (by kernel_rfl) rfl (fun K hK => ?_)
        go_simp
        have fT := heap_alloc_new V (.cells #[.int .i64 tn, .int .i64 qk, .int .i64 qn, .string qz] 144)
        have oT := Own.later oA (below1 V (.cells #[.int .i64 tn, .int .i64 qk, .int .i64 qn, .string qz] 144))
        have bT := below1 V (.cells #[.int .i64 tn, .int .i64 qk, .int .i64 qn, .string qz] 144)
        have oX2 := OwnT.later hH.2.1 bT
        have oY2 := OwnT.later hH.2.2 bT
        have b2 : Below W2.heap.size W2 (V.alloc (.cells #[.int .i64 tn, .int .i64 qk, .int .i64 qn, .string qz] 144)) := hH.1.alloc m8 _
        have sz : W2.heap.size <= (V.alloc (.cells #[.int .i64 tn, .int .i64 qk, .int .i64 qn, .string qz] 144)).heap.size := Nat.le_trans m8 bT.size
        have lT : V.heap.size < (V.alloc (.cells #[.int .i64 tn, .int .i64 qk, .int .i64 qn, .string qz] 144)).heap.size := by simp
        refine hK.out _ _ ⟨b2, oX2, oY2⟩ (fun hH => ?_)
        clear hK K oX2 oY2 b2 bT oA
        revert fT oT sz lT hH
        generalize V.alloc (.cells #[.int .i64 tn, .int .i64 qk, .int .i64 qn, .string qz] 144) = Vb
        generalize hTT : V.heap.size = T at *
        intro fT oT sz lT hH
        refine wRd 12 (by kernel_rfl) rfl (fun K hK => ?_)
        refine step_append_lies _ rfl _ _ _ rfl W2.heap.size 144 i0 _ 4 40 Tryz.underlying96 hi0 hz0 hz1 hz2 rfl (by omega) (.slice ua out.length uc) out.length (bcs out) (by rfl) oT ⟨T, 0, none⟩ 1 1 (Bd.cs ⟨tn, qk, qn, qz⟩) (by rfl) (by rfl) (World.news_of_block (cs := (Bd.cs ⟨tn, qk, qn, qz⟩).toArray) (t := 144) (fr := (0, 0)) fT) (by simp [Value.oneCell', Bd.cs]) (by omega) (by unfold maxLen; omega) (by omega) sz _ rfl ?_
        intro gg cap1 w9 hown1 hgrow hat hlt1
        have hB9 : Below W2.heap.size W2 w9 := hH.1.grown hgrow sz (fun q e => (World.ownsRow.lt oT q e).1)
        have oX9 : OwnT w9 W2.heap.size (.slice (some ⟨gx, 0, none⟩) pl.length cx) pl := World.ownsRow.kept hH.2.1 hgrow (Or.inr (fun h => M1.out h.symm))
        have oY9 : OwnT w9 W2.heap.size (.slice (some ⟨gy, 0, none⟩) al.length cy) al := World.ownsRow.kept hH.2.2 hgrow (Or.inr (fun h => M2.out h.symm))
        have R : Own w9 W2.heap.size (.slice (some ⟨gg, 0, none⟩) (out.length + 1) cap1) (out ++ [⟨tn, qk, qn, qz⟩]) := by unfold Own; rw [bcs_snoc, List.length_append]; exact hown1
        have ggx : (Value.slice (some ⟨gg, 0, none⟩) (out.length + 1) cap1).ownBlock ≠ some gx := fun h => by
         have e : gg = gx := Option.some.inj h
         rcases hat with hat | hat
         ·exact M1.out (by rw [hat, e])
         ·omega
        have ggy : (Value.slice (some ⟨gg, 0, none⟩) (out.length + 1) cap1).ownBlock ≠ some gy := fun h => by
         have e : gg = gy := Option.some.inj h
         rcases hat with hat | hat
         ·exact M2.out (by rw [hat, e])
         ·omega
        have RRq : Hid (Own w9 W2.heap.size (.slice (some ⟨gg, 0, none⟩) (out.length + 1) cap1) (out ++ [⟨tn, qk, qn, qz⟩]) /\ (Value.slice (some ⟨gg, 0, none⟩) (out.length + 1) cap1).ownBlock ≠ some gx /\ (Value.slice (some ⟨gg, 0, none⟩) (out.length + 1) cap1).ownBlock ≠ some gy) := ⟨R, ggx, ggy⟩
        refine hK.out _ _ ⟨hB9, oX9, oY9⟩ (fun hH => ?_)
        clear hK K hown1 hgrow hat hlt1 oT fT R ggx ggy hB9 oX9 oY9
        simp only [wA, wB, wC, wD]
        refine wTl 13 (.slice (some ⟨gg, 0, none⟩) (out.length + 1) cap1) rfl (by kernel_rfl) (fun _ _ _ h => h) rfl (fun w' _ => by go_simp) hH ?_
        simp only [wA, wB, wC, wD]
        refine wpAnyH_done (by kernel_rfl) ?_ _
        have HF : Hid _ := hH
        clear hH
        go_wp2
        go_roundg g
        case measure => omega
        case rel => exact ⟨j + 1, by omega, by go_num, by rw [HS.out, rS_new HVt.out HNo.out]; exact RRq.out.1, RRq.out.2.1, RRq.out.2.2, HF.out.2.1, HF.out.2.2, HF.out.1⟩
       ·have HYes : Hid (∃ q, look out tn = some q) := by
         have h := HLB.out; unfold lookB at h
         show ∃ q, _
         cases e : look out tn with
         | none => rw [e] at h; cases h
         | some q => exact ⟨q, rfl⟩
        go_wp2_with (go_at_call 90; refine (rvar_any ⟨tk, tn, tz⟩ _).mono ?_; rw [HVt.out]; rintro e w8 ⟨rfl, hb8⟩)
        have b8 := below_step (Hid.out HB7) hb8
        go_roundg g
        case measure => omega
        case rel => exact ⟨j + 1, by omega, by go_num, by rw [HS.out]; obtain ⟨q', hq'⟩ := HYes.out; rw [rS_old hq']; exact HO.out.later b8, M1.out, M2.out, HOX.out.later b8, HOY.out.later b8, (Hid.out HBr).trans (b8.mono hszr)⟩
     | zero =>
      have HT : (pl.zip al).take j = pl.zip al := List.take_of_length_le (by rw [List.length_zip]; omega)
      rw [HT, <- HAll.out] at hown
      have hol := rGo_len (pl.zip al) s
      rw [<- HAll.out, List.length_zip] at hol
      obtain ⟨ua, uc, rfl⟩ := own_len hown
      have hz : ¬ ((j : Int) < (pl.length : Int)) := by omega
      have hAl : (rAll P A s).length <= 1000000000000 := by omega
      have HO : Hid (Own wr W2.heap.size (.slice ua (rAll P A s).length uc) (rAll P A s)) := hown
      have bP : Hid (Blk wr _ _ _) := Blk.later (Hid.out BP) hbr
      have bA : Hid (Blk wr _ _ _) := Blk.later (Hid.out BA) hbr
      have hap2 := fun (X : World) (h : Below wr.heap.size wr X) => HAP.out X (.slice ua (rAll P A s).length uc) (rAll P A s) (below_step (Hid.out hwr) h) ((HO.out.later h).bs (by omega))
      have hmm : At.made (rAll P A s) ⟨⟨k, n, ss⟩, nm, l⟩ = ⟨⟨mk, mn, mz⟩, mm, ml⟩ := by rw [<- HP'.out]; exact HM.out
      rw [hmm] at hap2
      have HAP2 : Hid _ := hap2
      obtain ⟨mb, hmb⟩ : ∃ b, decide (At.mk ⟨mk, mn, mz⟩ mm ml = At.mk ⟨k', n', ss'⟩ nm' l') = b := ⟨_, rfl⟩
      rw [hmb] at HRS
      generalize hRA : rAll P A s = RA at *
      have HRA : Hid (rAll P A s = RA) := hRA
      have HMB : Hid (decide (At.mk ⟨mk, mn, mz⟩ mm ml = At.mk ⟨k', n', ss'⟩ nm' l') = mb) := hmb
      clear hown hap2 hmm HT hRA hmb hox hoy m1 m2
      go_upto_region 13 with fail
      cases mb
      ·skip
       refine wp_region_held_drew (S := fun w' => Below wr.heap.size wr w') (by kernel_rfl) (Below.refl _ _).drew (fun hH => ?_)
       revert hH
       generalize wr.drew = V
       intro hH
       refine wTl 0 (.slice ua RA.length uc) rfl (by kernel_rfl) (fun _ _ _ h => h) rfl (fun w' _ => by go_simp) hH ?_
       simp only [wA, wB, wC, wD]
       refine wTl 1 (.agg #[.int .i64 k, .int .i64 n, .string ss, .string nm, .slice xa l.length xc]) rfl (by kernel_rfl) (fun _ _ _ h => h) rfl (fun w' h => by obtain ⟨p0, p1, p2, p3, p4⟩ := five (Hid.out bP); have z := Blk.lt (Hid.out bP); have a0 := cell_step h z p0; have a1 := cell_step h z p1; have a2 := cell_step h z p2; have a3 := cell_step h z p3; have a4 := cell_step h z p4; clear p0 p1 p2 p3 p4; go_simp) hH ?_
       simp only [wA, wB, wC, wD]
       refine wTl 3 (.agg #[.int .i64 k', .int .i64 n', .string ss', .string nm', .slice ya l'.length yc]) rfl (by kernel_rfl) (fun _ _ _ h => h) rfl (fun w' h => by obtain ⟨p0, p1, p2, p3, p4⟩ := five (Hid.out bA); have z := Blk.lt (Hid.out bA); have a0 := cell_step h z p0; have a1 := cell_step h z p1; have a2 := cell_step h z p2; have a3 := cell_step h z p3; have a4 := cell_step h z p4; clear p0 p1 p2 p3 p4; go_simp) hH ?_
       simp only [wA, wB, wC, wD]
       refine wRd 2 (by kernel_rfl) rfl (fun K hK => ?_)
       go_simp
       refine (HAP2.out _ hH).mono ?_
       rintro e V1 ⟨z, rfl, tz, hb1⟩
       refine hK.out _ _ (below_step hH hb1) (fun hH => ?_)
       clear hK K
       refine wRd 4 (by kernel_rfl) rfl (fun K hK => ?_)
       go_simp
       refine (HRS.out _ z (below_step (Hid.out hwr) hH) tz).mono ?_
       rintro e V2 ⟨rfl, hb2⟩
       refine hK.out _ _ (below_step hH hb2) (fun hH => ?_)
       clear hK K
       refine wTl 5 (.bool true) rfl (by kernel_rfl) (fun _ _ _ h => h) rfl (fun w' _ => by go_simp) hH ?_
       simp only [wA, wB, wC, wD]
       refine wpAnyH_done (by kernel_rfl) ?_ _
       have hF := below_step (Hid.out hwr) hH
       have HNE : Hid (¬ P.made RA = A) := fun h => of_decide_eq_false HMB.out (by rw [<- HM.out, h, HA'.out])
       clear hH
       go_wp2
       exact bodyPost_ret (v := .tuple #[.slice none 0 0, .bool false]) (by simp [results, Tryz.results56, go_sem]) rfl ⟨hF, Or.inl ⟨Or.inr (by rw [HRA.out]; exact HNE.out), rfl⟩⟩
      ·skip
       refine wp_region_held_drew (S := fun w' => Below wr.heap.size wr w') (by kernel_rfl) (Below.refl _ _).drew (fun hH => ?_)
       revert hH
       generalize wr.drew = V
       intro hH
       refine wTl 0 (.slice ua RA.length uc) rfl (by kernel_rfl) (fun _ _ _ h => h) rfl (fun w' _ => by go_simp) hH ?_
       simp only [wA, wB, wC, wD]
       refine wTl 1 (.agg #[.int .i64 k, .int .i64 n, .string ss, .string nm, .slice xa l.length xc]) rfl (by kernel_rfl) (fun _ _ _ h => h) rfl (fun w' h => by obtain ⟨p0, p1, p2, p3, p4⟩ := five (Hid.out bP); have z := Blk.lt (Hid.out bP); have a0 := cell_step h z p0; have a1 := cell_step h z p1; have a2 := cell_step h z p2; have a3 := cell_step h z p3; have a4 := cell_step h z p4; clear p0 p1 p2 p3 p4; go_simp) hH ?_
       simp only [wA, wB, wC, wD]
       refine wTl 3 (.agg #[.int .i64 k', .int .i64 n', .string ss', .string nm', .slice ya l'.length yc]) rfl (by kernel_rfl) (fun _ _ _ h => h) rfl (fun w' h => by obtain ⟨p0, p1, p2, p3, p4⟩ := five (Hid.out bA); have z := Blk.lt (Hid.out bA); have a0 := cell_step h z p0; have a1 := cell_step h z p1; have a2 := cell_step h z p2; have a3 := cell_step h z p3; have a4 := cell_step h z p4; clear p0 p1 p2 p3 p4; go_simp) hH ?_
       simp only [wA, wB, wC, wD]
       refine wRd 2 (by kernel_rfl) rfl (fun K hK => ?_)
       go_simp
       refine (HAP2.out _ hH).mono ?_
       rintro e V1 ⟨z, rfl, tz, hb1⟩
       refine hK.out _ _ (below_step hH hb1) (fun hH => ?_)
       clear hK K
       refine wRd 4 (by kernel_rfl) rfl (fun K hK => ?_)
       go_simp
       refine (HRS.out _ z (below_step (Hid.out hwr) hH) tz).mono ?_
       rintro e V2 ⟨rfl, hb2⟩
       refine hK.out _ _ (below_step hH hb2) (fun hH => ?_)
       clear hK K
       refine wTl 5 (.bool false) rfl (by kernel_rfl) (fun _ _ _ h => h) rfl (fun w' _ => by go_simp) hH ?_
       simp only [wA, wB, wC, wD]
       refine wpAnyH_done (by kernel_rfl) ?_ _
       have hF := below_step (Hid.out hwr) hH
       have HBs := (HO.out.later hH).bs (by omega)
       have HEQ : Hid (P.made RA = A) := by show _ = _; rw [HM.out, of_decide_eq_true HMB.out, HA'.out]
       have HFF : Hid (Below w.heap.size w V2) := hF
       have HBS : Hid _ := HBs
       clear hH hF HBs
       go_wp2_with (go_at_call 93; refine (settled_any RA _ _ HBS.out (by omega)).mono ?_; rintro e w9 ⟨v9, l9, rfl, ho9, hu9, hl9, hn9, hb9⟩)
       refine bodyPost_ret (v := .tuple #[v9, .bool true]) (by simp [results, Tryz.results56, go_sem]) rfl ⟨below_step (Hid.out HFF) hb9, Or.inr ⟨HRK.out, by rw [HRA.out]; exact HEQ.out, v9, l9, rfl, own_mono ho9 (Hid.out HFF).size, hu9, by rw [HRA.out]; exact hl9, by have h1 := HN1.out; rw [HP'.out]; simp only; omega⟩⟩
end Go.Proofs.YtechceagghcipabGreatDoor
