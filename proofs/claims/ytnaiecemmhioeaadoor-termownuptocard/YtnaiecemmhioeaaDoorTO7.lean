/-
  alone. (Written by TO7.py.)
-/
import Derived.Test.YtnaiecemmhioeaaDoorTO8
namespace Go.Proofs.YtnaiecemmhioeaaDoor
open Go.RowKit
attribute [local go_sem ↓] Go.wp_at_zero Go.wp_at_succ

theorem AL.nextT {X W : World} {B Lb : Nat} {vT vB vN q : Value} {ts bs ns : List (Value × Nat)} {PB : Nat → List Bd → Prop} {PN : Nat → List Int → Prop} {n m : Nat} (h : AL W B Lb vT vB vN ts bs ns X (Pw oT n m) PB PN) (hn : ts[n]? = some (q, m)) : AL W B Lb vT vB vN ts bs ns X (Pw oT (n + 1) 0) PB PN := ⟨h.t.mono (fun k x l hx hl hp => pw_next (m := m) (fun e => by subst e; rw [hn] at hx; cases hx; exact hl) hp), h.b', h.n, h.l, h.b, h.z⟩
theorem AL.nextB {X W : World} {B Lb : Nat} {vT vB vN q : Value} {ts bs ns : List (Value × Nat)} {PT : Nat → List Tm → Prop} {PN : Nat → List Int → Prop} {n m : Nat} (h : AL W B Lb vT vB vN ts bs ns X PT (Pw oD n m) PN) (hn : bs[n]? = some (q, m)) : AL W B Lb vT vB vN ts bs ns X PT (Pw oD (n + 1) 0) PN := ⟨h.t, h.b'.mono (fun k x l hx hl hp => pw_next (m := m) (fun e => by subst e; rw [hn] at hx; cases hx; exact hl) hp), h.n, h.l, h.b, h.z⟩
theorem AL.nextN {X W : World} {B Lb : Nat} {vT vB vN q : Value} {ts bs ns : List (Value × Nat)} {PT : Nat → List Tm → Prop} {PB : Nat → List Bd → Prop} {n m : Nat} (h : AL W B Lb vT vB vN ts bs ns X PT PB (Pw oI n m)) (hn : ns[n]? = some (q, m)) : AL W B Lb vT vB vN ts bs ns X PT PB (Pw oI (n + 1) 0) := ⟨h.t, h.b', h.n.mono (fun k x l hx hl hp => pw_next (m := m) (fun e => by subst e; rw [hn] at hx; cases hx; exact hl) hp), h.l, h.b, h.z⟩
theorem AL.turnT {X W : World} {B Lb : Nat} {vT vB vN : Value} {ts bs ns : List (Value × Nat)} {PT : Nat → List Tm → Prop} {PN : Nat → List Int → Prop} {PB : Nat → List Bd → Prop} (h : AL W B Lb vT vB vN ts bs ns X PT PB PN) : AL W B Lb vT vB vN ts bs ns X PT (Pw oD 0 0) PN := ⟨h.t, h.b'.mono (fun k _ l _ _ _ => pw_zero _ k l), h.n, h.l, h.b, h.z⟩
theorem AL.turnB {X W : World} {B Lb : Nat} {vT vB vN : Value} {ts bs ns : List (Value × Nat)} {PT : Nat → List Tm → Prop} {PN : Nat → List Int → Prop} {PB : Nat → List Bd → Prop} (h : AL W B Lb vT vB vN ts bs ns X PT PB PN) : AL W B Lb vT vB vN ts bs ns X PT PB (Pw oI 0 0) := ⟨h.t, h.b', h.n.mono (fun k _ l _ _ _ => pw_zero _ k l), h.l, h.b, h.z⟩
theorem AM.start {X W : World} {B Lb : Nat} {vT vB vN : Value} {ts bs ns : List (Value × Nat)} (h : AL W B Lb vT vB vN ts bs ns X (Pw oT ts.length 0) (Pw oD bs.length 0) (Pw oI ns.length 0)) : AM W B X.heap.size Lb X.heap.size vT vB vN ts bs ns (X.alloc (.cells #[(.slice none 0 0), (.slice none 0 0), (.slice none 0 0)] 36)) (.slice none 0 0) (.slice none 0 0) (.slice none 0 0) [] [] [] 0 0 0 :=
  ⟨(Kp.start h.t (fun _ _ _ hx _ hp => pw_all (List.getElem?_eq_some_iff.1 hx).1 hp) (Nat.le_refl _)).later (below1 _ _), (Kp.start h.b' (fun _ _ _ hx _ hp => pw_all (List.getElem?_eq_some_iff.1 hx).1 hp) (Nat.le_refl _)).later (below1 _ _), (Kp.start h.n (fun _ _ _ hx _ hp => pw_all (List.getElem?_eq_some_iff.1 hx).1 hp) (Nat.le_refl _)).later (below1 _ _), h.l.later (below1 _ _), Blk.new _ _ _, h.b.trans ((below1 _ _).mono h.z), (below1 _ _).size, h.z, Nat.ne_of_lt h.l.lt, h.z⟩
set_option maxRecDepth 20000 in
set_option maxHeartbeats 20000000 in
theorem alone_any (Lb B : Nat) (vT vB vN : Value) (ts bs ns : List (Value × Nat)) (w : World) (h : AL w B Lb vT vB vN ts bs ns w (fun _ _ => True) (fun _ _ => True) (fun _ _ => True)) (h1 : ts.length ≤ 1000) (h2 : bs.length ≤ 1000) (h3 : ns.length ≤ 1000)
    (hT : ∀ x ∈ ts, x.2 ≤ 1100000000000) (hB : ∀ x ∈ bs, x.2 ≤ 1100000000000) (hN : ∀ x ∈ ns, x.2 ≤ 1100000000000) :
    Calls Tryd.prog 7 #[.pointer (some ⟨Lb, 0, none⟩)] w fun e w' => e = .returned (.bool true) ∧ Below B w w' := by
  have HTB : Hid (∀ x ∈ ts, x.2 ≤ 1100000000000) := hT
  have HBB : Hid (∀ x ∈ bs, x.2 ≤ 1100000000000) := hB
  have HNB : Hid (∀ x ∈ ns, x.2 ≤ 1100000000000) := hN
  have HOW : Hid (∀ (n : Nat) (Y : World), Calls Tryd.prog 16 #[.int .i64 (n : Int)] Y fun e w' => e = .returned (.agg #[.int .i64 (-7), .int .i64 (n : Int), .string oB]) ∧ Below Y.heap.size Y w') := fun n Y => own_any n Y
  obtain ⟨ta, tc, e1⟩ := h.t.ss.form
  obtain ⟨ba, bc, e2⟩ := h.b'.ss.form
  obtain ⟨na, nc, e3⟩ := h.n.ss.form
  rw [List.length_map] at e1 e2 e3
  subst e1 e2 e3
  have HA0 : Hid (AL w B Lb (.slice ta ts.length tc) (.slice ba bs.length bc) (.slice na ns.length nc) ts bs ns w (Pw oT 0 0) (fun _ _ => True) (fun _ _ => True)) := ⟨h.t.mono (fun k _ l _ _ _ => pw_zero _ k l), h.b', h.n, h.l, h.b, h.z⟩
  clear h hT hB hN
  go_enter Tryd.func7, Tryd.ntmps7
  go_wp2
  go_loopg [3] ts.length (fun g i wr => ∃ n : Nat, n + g = ts.length ∧ i = .int .i64 (n : Int) ∧ AL w B Lb (.slice ta ts.length tc) (.slice ba bs.length bc) (.slice na ns.length nc) ts bs ns wr (Pw oT (n) (0)) (fun _ _ => True) (fun _ _ => True))
  case atStart => exact ⟨0, by omega, rfl, HA0.out⟩
  case round =>
    obtain ⟨n, hg, rfl, hal⟩ := hrel
    have HAL : Hid (AL w B Lb (.slice ta ts.length tc) (.slice ba bs.length bc) (.slice na ns.length nc) ts bs ns wr (Pw oT (n) (0)) (fun _ _ => True) (fun _ _ => True)) := hal
    have jn : (0 : Int) ≤ (n : Int) := by omega
    obtain ⟨y0, y1, y2⟩ := three9 hal.l
    have hLz := hal.l.lt
    clear hal
    by_cases hnl : n < ts.length
    · have k1 : (n : Int) < (ts.length : Int) := by omega
      obtain ⟨G, rfl⟩ : ∃ G, gk = G + 1 := ⟨gk - 1, by omega⟩
      obtain ⟨x, hx⟩ : ∃ z, ts[n]? = some z := ⟨_, List.getElem?_eq_getElem hnl⟩
      obtain ⟨gb, rfl, hgz, hgc⟩ := HAL.out.t.ss.get (j := n) (u := x.1) (by rw [List.getElem?_map, hx]; rfl)
      obtain ⟨l0, hl0, ho0, -⟩ := HAL.out.t.i n x hx
      obtain ⟨xv, xm⟩ := x
      obtain ⟨xa, xc, ex⟩ : ∃ a c, xv = .slice a xm c := by
        rcases ho0.2 with ⟨e, e2⟩ | ⟨b2, c2, cur2, e, -⟩
        · simp only at e e2; exact ⟨none, 0, by rw [e, e2]⟩
        · exact ⟨_, _, e⟩
      subst ex
      simp only at hgc
      have HX0 : Hid (ts[n]? = some (.slice xa xm xc, xm)) := hx
      have HSH : Hid (0 < xm → ∃ g, xa = some ⟨g, 0, none⟩) := fun h0 => by
        rcases ho0.2 with ⟨e, e2⟩ | ⟨b2, c2, cur2, e, -⟩
        · simp only at e2; omega
        · simp only [Value.slice.injEq] at e; exact ⟨b2, e.1⟩
      have HQ : Hid (n + (G + 1) = ts.length ∧ n < ts.length) := ⟨hg, hnl⟩
      have hxb : xm ≤ 1100000000000 := HTB.out _ (List.mem_of_getElem? hx)
      clear hx hl0 ho0 l0
      go_wp2
      go_loopg [4] xm (fun g i wr => ∃ q : Nat, q + g = xm ∧ i = .int .i64 (q : Int) ∧ AL w B Lb (.slice (some ⟨gb, 0, none⟩) ts.length tc) (.slice ba bs.length bc) (.slice na ns.length nc) ts bs ns wr (Pw oT (n) (q)) (fun _ _ => True) (fun _ _ => True))
      case atStart => exact ⟨0, by omega, rfl, HAL.out⟩
      case round =>
        obtain ⟨q, hgq, rfl, hal⟩ := hrel
        have HAL : Hid (AL w B Lb (.slice (some ⟨gb, 0, none⟩) ts.length tc) (.slice ba bs.length bc) (.slice na ns.length nc) ts bs ns wr (Pw oT (n) (q)) (fun _ _ => True) (fun _ _ => True)) := hal
        have iq : (0 : Int) ≤ (q : Int) := by omega
        obtain ⟨y0, y1, y2⟩ := three9 hal.l
        have hLz := hal.l.lt
        obtain ⟨b8, e8, hgz, hgc⟩ := hal.t.ss.get (j := n) (u := .slice xa xm xc) (by rw [List.getElem?_map, HX0.out]; rfl)
        cases e8
        obtain ⟨hq1, hq2⟩ := HQ.out
        have k1 : (n : Int) < (ts.length : Int) := by omega
        have hwj : IntKind.i64.wrap (-1 - (n : Int)) = -1 - (n : Int) := wrap_m (by omega)
        have hwk : wrap64 (-1 - (n : Int)) = -1 - (n : Int) := wrap_k (by omega)
        clear hal
        by_cases hqm : q < xm
        · have k2 : (q : Int) < (xm : Int) := by omega
          obtain ⟨xg, rfl⟩ := HSH.out (by omega)
          have HX : Hid (ts[n]? = some (.slice (some ⟨xg, 0, none⟩) xm xc, xm)) := HX0.out
          go_upto_region 7 with fail
          have HV : Hid (Below wr.heap.size wr wr.drew) := (Below.refl _ _).drew
          refine wp_region_held_drew (S := fun w' => Blk w' Lb #[(.slice (some ⟨gb, 0, none⟩) ts.length tc), (.slice ba bs.length bc), (.slice na ns.length nc)] 36 ∧ gb < w'.heap.size ∧ w'.cell? ⟨gb, n, none⟩ = some (.slice (some ⟨xg, 0, none⟩) xm xc)) (by kernel_rfl) ⟨HAL.out.l, hgz, hgc⟩ (fun hH => ?_)
          revert hH HV
          generalize wr.drew = V
          intro HV hH
          refine wpAnyH_take (i := 0) (oi := ⟨_, _, _, _, _, _⟩) (v := .pointer (some ⟨Lb, 0, none⟩)) rfl (by kernel_rfl) (by kernel_rfl) (by kernel_rfl) (fun _ _ _ h => h) (Or.inl ⟨by rfl, fun w' h => by clear h; go_simp⟩) hH ?_
          simp only [Act.put, List.setIfInBounds_toArray, List.set_cons_zero, List.set_cons_succ]
          refine wpAnyH_take (i := 1) (oi := ⟨_, _, _, _, _, _⟩) (v := .pointer (some ⟨Lb, 0, none⟩)) rfl (by kernel_rfl) (by kernel_rfl) (by kernel_rfl) (fun _ _ _ h => h) (Or.inl ⟨by rfl, fun w' h => by clear h; go_simp⟩) hH ?_
          simp only [Act.put, List.setIfInBounds_toArray, List.set_cons_zero, List.set_cons_succ]
          refine wpAnyH_take (i := 2) (oi := ⟨_, _, _, _, _, _⟩) (v := .pointer (some ⟨Lb, 0, none⟩)) rfl (by kernel_rfl) (by kernel_rfl) (by kernel_rfl) (fun _ _ _ h => h) (Or.inl ⟨by rfl, fun w' h => by clear h; go_simp⟩) hH ?_
          simp only [Act.put, List.setIfInBounds_toArray, List.set_cons_zero, List.set_cons_succ]
          refine wpAnyH_take (i := 3) (oi := ⟨_, _, _, _, _, _⟩) (v := (.slice (some ⟨gb, 0, none⟩) ts.length tc)) rfl (by kernel_rfl) (by kernel_rfl) (by kernel_rfl) (fun _ _ _ h => h) (Or.inl ⟨by rfl, fun w' h => by obtain ⟨y0, y1, y2⟩ := three9 h.1; clear h; go_simp⟩) hH ?_
          simp only [Act.put, List.setIfInBounds_toArray, List.set_cons_zero, List.set_cons_succ]
          refine wpAnyH_take (i := 4) (oi := ⟨_, _, _, _, _, _⟩) (v := .int .i64 (n : Int)) rfl (by kernel_rfl) (by kernel_rfl) (by kernel_rfl) (fun _ _ _ h => h) (Or.inl ⟨by rfl, fun w' h => by clear h; go_simp⟩) hH ?_
          simp only [Act.put, List.setIfInBounds_toArray, List.set_cons_zero, List.set_cons_succ]
          refine wpAnyH_take (i := 5) (oi := ⟨_, _, _, _, _, _⟩) (v := .pointer (some ⟨gb, n, none⟩)) rfl (by kernel_rfl) (by kernel_rfl) (by kernel_rfl) (fun _ _ _ h => h) (Or.inl ⟨by rfl, fun w' h => by clear h; go_simp⟩) hH ?_
          simp only [Act.put, List.setIfInBounds_toArray, List.set_cons_zero, List.set_cons_succ]
          refine wpAnyH_take (i := 6) (oi := ⟨_, _, _, _, _, _⟩) (v := .slice (some ⟨xg, 0, none⟩) xm xc) rfl (by kernel_rfl) (by kernel_rfl) (by kernel_rfl) (fun _ _ _ h => h) (Or.inl ⟨by rfl, fun w' h => by have y0 := h.2.2; have z := h.2.1; clear h; go_simp⟩) hH ?_
          simp only [Act.put, List.setIfInBounds_toArray, List.set_cons_zero, List.set_cons_succ]
          refine wpAnyH_take (i := 7) (oi := ⟨_, _, _, _, _, _⟩) (v := .int .i64 (q : Int)) rfl (by kernel_rfl) (by kernel_rfl) (by kernel_rfl) (fun _ _ _ h => h) (Or.inl ⟨by rfl, fun w' h => by clear h; go_simp⟩) hH ?_
          simp only [Act.put, List.setIfInBounds_toArray, List.set_cons_zero, List.set_cons_succ]
          refine wpAnyH_take (i := 8) (oi := ⟨_, _, _, _, _, _⟩) (v := .int .i64 (n : Int)) rfl (by kernel_rfl) (by kernel_rfl) (by kernel_rfl) (fun _ _ _ h => h) (Or.inl ⟨by rfl, fun w' h => by clear h; go_simp⟩) hH ?_
          simp only [Act.put, List.setIfInBounds_toArray, List.set_cons_zero, List.set_cons_succ]
          refine wpAnyH_ready (rs := [9]) (by kernel_rfl) (by simp) ?_
          refine (AllReadyH.cons (o := ⟨_, _, _, _, _, _⟩) rfl (fun K hK => ?_) AllReadyH.nil)
          go_simp
          refine (HOW.out n _).mono ?_
          rintro e V1 ⟨rfl, hb⟩
          have HA1 : Hid (AL w B Lb (.slice (some ⟨gb, 0, none⟩) ts.length tc) (.slice ba bs.length bc) (.slice na ns.length nc) ts bs ns V1 (Pw oT (n) (q)) (fun _ _ => True) (fun _ _ => True)) := HAL.out.later (below_step HV.out hb)
          refine hK.out _ _ ⟨hH.1.later hb, Nat.lt_of_lt_of_le hH.2.1 hb.size, cell_step hb hH.2.1 hH.2.2⟩ (fun hH => ?_)
          clear hK K hb
          refine wpAnyH_take (i := 10) (oi := ⟨_, _, _, _, _, _⟩) (v := .pointer (some ⟨xg, q * 3, none⟩)) rfl (by kernel_rfl) (by kernel_rfl) (by kernel_rfl) (fun _ _ _ h => h) (Or.inl ⟨by rfl, fun w' h => by clear h; go_simp⟩) hH ?_
          simp only [Act.put, List.setIfInBounds_toArray, List.set_cons_zero, List.set_cons_succ]
          have HP : Hid (AL w B Lb (.slice (some ⟨gb, 0, none⟩) ts.length tc) (.slice ba bs.length bc) (.slice na ns.length nc) ts bs ns (((V1.setCell ⟨xg, q * 3, none⟩ (.int .i64 (-7))).setCell ⟨xg, q * 3 + 1, none⟩ (.int .i64 (n : Int))).setCell ⟨xg, q * 3 + 2, none⟩ (.string oB)) (Pw oT (n) (q + 1)) (fun _ _ => True) (fun _ _ => True)) := HA1.out.putT HX.out hqm
          obtain ⟨l9, h91, h92, -⟩ := HA1.out.t.i n _ HX.out
          obtain ⟨⟨c0, e0⟩, f0⟩ := row_cell h92 (i := q * 3) (by omega)
          obtain ⟨⟨c1, e1⟩, f1⟩ := row_cell h92 (i := q * 3 + 1) (by omega)
          obtain ⟨⟨c2, e2⟩, f2⟩ := row_cell h92 (i := q * 3 + 2) (by omega)
          refine wpAnyH_ready (rs := [11]) (by kernel_rfl) (by simp) ?_
          refine (AllReadyH.cons (o := ⟨_, _, _, _, _, _⟩) rfl (fun K hK => ?_) AllReadyH.nil)
          go_simp
          obtain ⟨b9, e9, hz9, hc9⟩ := HP.out.t.ss.get (j := n) (u := .slice (some ⟨xg, 0, none⟩) xm xc) (by rw [List.getElem?_map, HX.out]; rfl)
          cases e9
          refine hK.out _ _ ⟨HP.out.l, hz9, hc9⟩ (fun hH => ?_)
          clear hK K hH
          refine wpAnyH_done (by kernel_rfl) ?_ _
          go_wp2
          go_roundg (gk - 1)
          case measure => omega
          case rel => exact ⟨q + 1, by omega, by go_num, HP.out⟩
        · have k2 : ¬ (q : Int) < (xm : Int) := by omega
          obtain rfl : q = xm := by omega
          have HN : Hid (AL w B Lb (.slice (some ⟨gb, 0, none⟩) ts.length tc) (.slice ba bs.length bc) (.slice na ns.length nc) ts bs ns wr (Pw oT (n + 1) (0)) (fun _ _ => True) (fun _ _ => True)) := HAL.out.nextT HX0.out
          go_wp2
          go_roundg G
          case measure => omega
          case rel => exact ⟨n + 1, by omega, by go_num, HN.out⟩
    · have k1 : ¬ (n : Int) < (ts.length : Int) := by omega
      obtain rfl : n = ts.length := by omega
      have HA0 : Hid (AL w B Lb (.slice ta ts.length tc) (.slice ba bs.length bc) (.slice na ns.length nc) ts bs ns wr (Pw oT ts.length 0) (Pw oD (0) (0)) (fun _ _ => True)) := HAL.out.turnT
      have HAF := HAL
      clear HAL
      go_wp2
      go_loopg [5] bs.length (fun g i wr => ∃ n : Nat, n + g = bs.length ∧ i = .int .i64 (n : Int) ∧ AL w B Lb (.slice ta ts.length tc) (.slice ba bs.length bc) (.slice na ns.length nc) ts bs ns wr (Pw oT ts.length 0) (Pw oD (n) (0)) (fun _ _ => True))
      case atStart => exact ⟨0, by omega, rfl, HA0.out⟩
      case round =>
        obtain ⟨n, hg, rfl, hal⟩ := hrel
        have HAL : Hid (AL w B Lb (.slice ta ts.length tc) (.slice ba bs.length bc) (.slice na ns.length nc) ts bs ns wr (Pw oT ts.length 0) (Pw oD (n) (0)) (fun _ _ => True)) := hal
        have jn : (0 : Int) ≤ (n : Int) := by omega
        obtain ⟨y0, y1, y2⟩ := three9 hal.l
        have hLz := hal.l.lt
        clear hal
        by_cases hnl : n < bs.length
        · have k1 : (n : Int) < (bs.length : Int) := by omega
          obtain ⟨G, rfl⟩ : ∃ G, gk = G + 1 := ⟨gk - 1, by omega⟩
          obtain ⟨x, hx⟩ : ∃ z, bs[n]? = some z := ⟨_, List.getElem?_eq_getElem hnl⟩
          obtain ⟨gb, rfl, hgz, hgc⟩ := HAL.out.b'.ss.get (j := n) (u := x.1) (by rw [List.getElem?_map, hx]; rfl)
          obtain ⟨l0, hl0, ho0, -⟩ := HAL.out.b'.i n x hx
          obtain ⟨xv, xm⟩ := x
          obtain ⟨xa, xc, ex⟩ : ∃ a c, xv = .slice a xm c := by
            rcases ho0.2 with ⟨e, e2⟩ | ⟨b2, c2, cur2, e, -⟩
            · simp only at e e2; exact ⟨none, 0, by rw [e, e2]⟩
            · exact ⟨_, _, e⟩
          subst ex
          simp only at hgc
          have HX0 : Hid (bs[n]? = some (.slice xa xm xc, xm)) := hx
          have HSH : Hid (0 < xm → ∃ g, xa = some ⟨g, 0, none⟩) := fun h0 => by
            rcases ho0.2 with ⟨e, e2⟩ | ⟨b2, c2, cur2, e, -⟩
            · simp only at e2; omega
            · simp only [Value.slice.injEq] at e; exact ⟨b2, e.1⟩
          have HQ : Hid (n + (G + 1) = bs.length ∧ n < bs.length) := ⟨hg, hnl⟩
          have hxb : xm ≤ 1100000000000 := HBB.out _ (List.mem_of_getElem? hx)
          clear hx hl0 ho0 l0
          go_wp2
          go_loopg [6] xm (fun g i wr => ∃ q : Nat, q + g = xm ∧ i = .int .i64 (q : Int) ∧ AL w B Lb (.slice ta ts.length tc) (.slice (some ⟨gb, 0, none⟩) bs.length bc) (.slice na ns.length nc) ts bs ns wr (Pw oT ts.length 0) (Pw oD (n) (q)) (fun _ _ => True))
          case atStart => exact ⟨0, by omega, rfl, HAL.out⟩
          case round =>
            obtain ⟨q, hgq, rfl, hal⟩ := hrel
            have HAL : Hid (AL w B Lb (.slice ta ts.length tc) (.slice (some ⟨gb, 0, none⟩) bs.length bc) (.slice na ns.length nc) ts bs ns wr (Pw oT ts.length 0) (Pw oD (n) (q)) (fun _ _ => True)) := hal
            have iq : (0 : Int) ≤ (q : Int) := by omega
            obtain ⟨y0, y1, y2⟩ := three9 hal.l
            have hLz := hal.l.lt
            obtain ⟨b8, e8, hgz, hgc⟩ := hal.b'.ss.get (j := n) (u := .slice xa xm xc) (by rw [List.getElem?_map, HX0.out]; rfl)
            cases e8
            obtain ⟨hq1, hq2⟩ := HQ.out
            have k1 : (n : Int) < (bs.length : Int) := by omega
            have hwj : IntKind.i64.wrap (-1 - (n : Int)) = -1 - (n : Int) := wrap_m (by omega)
            have hwk : wrap64 (-1 - (n : Int)) = -1 - (n : Int) := wrap_k (by omega)
            clear hal
            by_cases hqm : q < xm
            · have k2 : (q : Int) < (xm : Int) := by omega
              obtain ⟨xg, rfl⟩ := HSH.out (by omega)
              have HX : Hid (bs[n]? = some (.slice (some ⟨xg, 0, none⟩) xm xc, xm)) := HX0.out
              go_upto_region 14 with fail
              have HV : Hid (Below wr.heap.size wr wr.drew) := (Below.refl _ _).drew
              refine wp_region_held_drew (S := fun w' => Blk w' Lb #[(.slice ta ts.length tc), (.slice (some ⟨gb, 0, none⟩) bs.length bc), (.slice na ns.length nc)] 36 ∧ gb < w'.heap.size ∧ w'.cell? ⟨gb, n, none⟩ = some (.slice (some ⟨xg, 0, none⟩) xm xc)) (by kernel_rfl) ⟨HAL.out.l, hgz, hgc⟩ (fun hH => ?_)
              revert hH HV
              generalize wr.drew = V
              intro HV hH
              refine wpAnyH_take (i := 0) (oi := ⟨_, _, _, _, _, _⟩) (v := .pointer (some ⟨Lb, 0, none⟩)) rfl (by kernel_rfl) (by kernel_rfl) (by kernel_rfl) (fun _ _ _ h => h) (Or.inl ⟨by rfl, fun w' h => by clear h; go_simp⟩) hH ?_
              simp only [Act.put, List.setIfInBounds_toArray, List.set_cons_zero, List.set_cons_succ]
              refine wpAnyH_take (i := 1) (oi := ⟨_, _, _, _, _, _⟩) (v := .pointer (some ⟨Lb, 0, none⟩)) rfl (by kernel_rfl) (by kernel_rfl) (by kernel_rfl) (fun _ _ _ h => h) (Or.inl ⟨by rfl, fun w' h => by clear h; go_simp⟩) hH ?_
              simp only [Act.put, List.setIfInBounds_toArray, List.set_cons_zero, List.set_cons_succ]
              refine wpAnyH_take (i := 2) (oi := ⟨_, _, _, _, _, _⟩) (v := .pointer (some ⟨Lb, 1, none⟩)) rfl (by kernel_rfl) (by kernel_rfl) (by kernel_rfl) (fun _ _ _ h => h) (Or.inl ⟨by rfl, fun w' h => by clear h; go_simp⟩) hH ?_
              simp only [Act.put, List.setIfInBounds_toArray, List.set_cons_zero, List.set_cons_succ]
              refine wpAnyH_take (i := 3) (oi := ⟨_, _, _, _, _, _⟩) (v := (.slice (some ⟨gb, 0, none⟩) bs.length bc)) rfl (by kernel_rfl) (by kernel_rfl) (by kernel_rfl) (fun _ _ _ h => h) (Or.inl ⟨by rfl, fun w' h => by obtain ⟨y0, y1, y2⟩ := three9 h.1; clear h; go_simp⟩) hH ?_
              simp only [Act.put, List.setIfInBounds_toArray, List.set_cons_zero, List.set_cons_succ]
              refine wpAnyH_take (i := 4) (oi := ⟨_, _, _, _, _, _⟩) (v := .int .i64 (n : Int)) rfl (by kernel_rfl) (by kernel_rfl) (by kernel_rfl) (fun _ _ _ h => h) (Or.inl ⟨by rfl, fun w' h => by clear h; go_simp⟩) hH ?_
              simp only [Act.put, List.setIfInBounds_toArray, List.set_cons_zero, List.set_cons_succ]
              refine wpAnyH_take (i := 5) (oi := ⟨_, _, _, _, _, _⟩) (v := .pointer (some ⟨gb, n, none⟩)) rfl (by kernel_rfl) (by kernel_rfl) (by kernel_rfl) (fun _ _ _ h => h) (Or.inl ⟨by rfl, fun w' h => by clear h; go_simp⟩) hH ?_
              simp only [Act.put, List.setIfInBounds_toArray, List.set_cons_zero, List.set_cons_succ]
              refine wpAnyH_take (i := 6) (oi := ⟨_, _, _, _, _, _⟩) (v := .slice (some ⟨xg, 0, none⟩) xm xc) rfl (by kernel_rfl) (by kernel_rfl) (by kernel_rfl) (fun _ _ _ h => h) (Or.inl ⟨by rfl, fun w' h => by have y0 := h.2.2; have z := h.2.1; clear h; go_simp⟩) hH ?_
              simp only [Act.put, List.setIfInBounds_toArray, List.set_cons_zero, List.set_cons_succ]
              refine wpAnyH_take (i := 7) (oi := ⟨_, _, _, _, _, _⟩) (v := .int .i64 (q : Int)) rfl (by kernel_rfl) (by kernel_rfl) (by kernel_rfl) (fun _ _ _ h => h) (Or.inl ⟨by rfl, fun w' h => by clear h; go_simp⟩) hH ?_
              simp only [Act.put, List.setIfInBounds_toArray, List.set_cons_zero, List.set_cons_succ]
              refine wpAnyH_take (i := 8) (oi := ⟨_, _, _, _, _, _⟩) (v := .int .i64 (n : Int)) rfl (by kernel_rfl) (by kernel_rfl) (by kernel_rfl) (fun _ _ _ h => h) (Or.inl ⟨by rfl, fun w' h => by clear h; go_simp⟩) hH ?_
              simp only [Act.put, List.setIfInBounds_toArray, List.set_cons_zero, List.set_cons_succ]
              refine wpAnyH_take (i := 9) (oi := ⟨_, _, _, _, _, _⟩) (v := .int .i64 (-1 - (n : Int))) rfl (by kernel_rfl) (by kernel_rfl) (by kernel_rfl) (fun _ _ _ h => h) (Or.inl ⟨by rfl, fun w' h => by clear h; go_simp⟩) hH ?_
              simp only [Act.put, List.setIfInBounds_toArray, List.set_cons_zero, List.set_cons_succ]
              refine wpAnyH_take (i := 10) (oi := ⟨_, _, _, _, _, _⟩) (v := .int .i64 (n : Int)) rfl (by kernel_rfl) (by kernel_rfl) (by kernel_rfl) (fun _ _ _ h => h) (Or.inl ⟨by rfl, fun w' h => by clear h; go_simp⟩) hH ?_
              simp only [Act.put, List.setIfInBounds_toArray, List.set_cons_zero, List.set_cons_succ]
              refine wpAnyH_ready (rs := [11]) (by kernel_rfl) (by simp) ?_
              refine (AllReadyH.cons (o := ⟨_, _, _, _, _, _⟩) rfl (fun K hK => ?_) AllReadyH.nil)
              go_simp
              refine (HOW.out n _).mono ?_
              rintro e V1 ⟨rfl, hb⟩
              have HA1 : Hid (AL w B Lb (.slice ta ts.length tc) (.slice (some ⟨gb, 0, none⟩) bs.length bc) (.slice na ns.length nc) ts bs ns V1 (Pw oT ts.length 0) (Pw oD (n) (q)) (fun _ _ => True)) := HAL.out.later (below_step HV.out hb)
              refine hK.out _ _ ⟨hH.1.later hb, Nat.lt_of_lt_of_le hH.2.1 hb.size, cell_step hb hH.2.1 hH.2.2⟩ (fun hH => ?_)
              clear hK K hb
              refine wpAnyH_take (i := 12) (oi := ⟨_, _, _, _, _, _⟩) (v := .agg #[.int .i64 (-1 - (n : Int)), .int .i64 (-7), .int .i64 (n : Int), .string oB]) rfl (by kernel_rfl) (by kernel_rfl) (by kernel_rfl) (fun _ _ _ h => h) (Or.inl ⟨by rfl, fun w' h => by clear h; go_simp⟩) hH ?_
              simp only [Act.put, List.setIfInBounds_toArray, List.set_cons_zero, List.set_cons_succ]
              refine wpAnyH_take (i := 13) (oi := ⟨_, _, _, _, _, _⟩) (v := .pointer (some ⟨xg, q * 4, none⟩)) rfl (by kernel_rfl) (by kernel_rfl) (by kernel_rfl) (fun _ _ _ h => h) (Or.inl ⟨by rfl, fun w' h => by clear h; go_simp⟩) hH ?_
              simp only [Act.put, List.setIfInBounds_toArray, List.set_cons_zero, List.set_cons_succ]
              have HP : Hid (AL w B Lb (.slice ta ts.length tc) (.slice (some ⟨gb, 0, none⟩) bs.length bc) (.slice na ns.length nc) ts bs ns ((((V1.setCell ⟨xg, q * 4, none⟩ (.int .i64 (-1 - (n : Int)))).setCell ⟨xg, q * 4 + 1, none⟩ (.int .i64 (-7))).setCell ⟨xg, q * 4 + 2, none⟩ (.int .i64 (n : Int))).setCell ⟨xg, q * 4 + 3, none⟩ (.string oB)) (Pw oT ts.length 0) (Pw oD (n) (q + 1)) (fun _ _ => True)) := HA1.out.putB HX.out hqm
              obtain ⟨l9, h91, h92, -⟩ := HA1.out.b'.i n _ HX.out
              obtain ⟨⟨c0, e0⟩, f0⟩ := row_cell h92 (i := q * 4) (by omega)
              obtain ⟨⟨c1, e1⟩, f1⟩ := row_cell h92 (i := q * 4 + 1) (by omega)
              obtain ⟨⟨c2, e2⟩, f2⟩ := row_cell h92 (i := q * 4 + 2) (by omega)
              obtain ⟨⟨c3, e3⟩, f3⟩ := row_cell h92 (i := q * 4 + 3) (by omega)
              refine wpAnyH_ready (rs := [14]) (by kernel_rfl) (by simp) ?_
              refine (AllReadyH.cons (o := ⟨_, _, _, _, _, _⟩) rfl (fun K hK => ?_) AllReadyH.nil)
              go_simp
              obtain ⟨b9, e9, hz9, hc9⟩ := HP.out.b'.ss.get (j := n) (u := .slice (some ⟨xg, 0, none⟩) xm xc) (by rw [List.getElem?_map, HX.out]; rfl)
              cases e9
              refine hK.out _ _ ⟨HP.out.l, hz9, hc9⟩ (fun hH => ?_)
              clear hK K hH
              refine wpAnyH_done (by kernel_rfl) ?_ _
              go_wp2
              go_roundg (gk - 1)
              case measure => omega
              case rel => exact ⟨q + 1, by omega, by go_num, HP.out⟩
            · have k2 : ¬ (q : Int) < (xm : Int) := by omega
              obtain rfl : q = xm := by omega
              have HN : Hid (AL w B Lb (.slice ta ts.length tc) (.slice (some ⟨gb, 0, none⟩) bs.length bc) (.slice na ns.length nc) ts bs ns wr (Pw oT ts.length 0) (Pw oD (n + 1) (0)) (fun _ _ => True)) := HAL.out.nextB HX0.out
              go_wp2
              go_roundg G
              case measure => omega
              case rel => exact ⟨n + 1, by omega, by go_num, HN.out⟩
        · have k1 : ¬ (n : Int) < (bs.length : Int) := by omega
          obtain rfl : n = bs.length := by omega
          have HA0 : Hid (AL w B Lb (.slice ta ts.length tc) (.slice ba bs.length bc) (.slice na ns.length nc) ts bs ns wr (Pw oT ts.length 0) (Pw oD bs.length 0) (Pw oI (0) (0))) := HAL.out.turnB
          have HAF := HAL
          clear HAL
          go_wp2
          go_loopg [7] ns.length (fun g i wr => ∃ n : Nat, n + g = ns.length ∧ i = .int .i64 (n : Int) ∧ AL w B Lb (.slice ta ts.length tc) (.slice ba bs.length bc) (.slice na ns.length nc) ts bs ns wr (Pw oT ts.length 0) (Pw oD bs.length 0) (Pw oI (n) (0)))
          case atStart => exact ⟨0, by omega, rfl, HA0.out⟩
          case round =>
            obtain ⟨n, hg, rfl, hal⟩ := hrel
            have HAL : Hid (AL w B Lb (.slice ta ts.length tc) (.slice ba bs.length bc) (.slice na ns.length nc) ts bs ns wr (Pw oT ts.length 0) (Pw oD bs.length 0) (Pw oI (n) (0))) := hal
            have jn : (0 : Int) ≤ (n : Int) := by omega
            obtain ⟨y0, y1, y2⟩ := three9 hal.l
            have hLz := hal.l.lt
            clear hal
            by_cases hnl : n < ns.length
            · have k1 : (n : Int) < (ns.length : Int) := by omega
              obtain ⟨G, rfl⟩ : ∃ G, gk = G + 1 := ⟨gk - 1, by omega⟩
              obtain ⟨x, hx⟩ : ∃ z, ns[n]? = some z := ⟨_, List.getElem?_eq_getElem hnl⟩
              obtain ⟨gb, rfl, hgz, hgc⟩ := HAL.out.n.ss.get (j := n) (u := x.1) (by rw [List.getElem?_map, hx]; rfl)
              obtain ⟨l0, hl0, ho0, -⟩ := HAL.out.n.i n x hx
              obtain ⟨xv, xm⟩ := x
              obtain ⟨xa, xc, ex⟩ : ∃ a c, xv = .slice a xm c := by
                rcases ho0.2 with ⟨e, e2⟩ | ⟨b2, c2, cur2, e, -⟩
                · simp only at e e2; exact ⟨none, 0, by rw [e, e2]⟩
                · exact ⟨_, _, e⟩
              subst ex
              simp only at hgc
              have HX0 : Hid (ns[n]? = some (.slice xa xm xc, xm)) := hx
              have HSH : Hid (0 < xm → ∃ g, xa = some ⟨g, 0, none⟩) := fun h0 => by
                rcases ho0.2 with ⟨e, e2⟩ | ⟨b2, c2, cur2, e, -⟩
                · simp only at e2; omega
                · simp only [Value.slice.injEq] at e; exact ⟨b2, e.1⟩
              have HQ : Hid (n + (G + 1) = ns.length ∧ n < ns.length) := ⟨hg, hnl⟩
              have hxb : xm ≤ 1100000000000 := HNB.out _ (List.mem_of_getElem? hx)
              clear hx hl0 ho0 l0
              go_wp2
              go_loopg [8] xm (fun g i wr => ∃ q : Nat, q + g = xm ∧ i = .int .i64 (q : Int) ∧ AL w B Lb (.slice ta ts.length tc) (.slice ba bs.length bc) (.slice (some ⟨gb, 0, none⟩) ns.length nc) ts bs ns wr (Pw oT ts.length 0) (Pw oD bs.length 0) (Pw oI (n) (q)))
              case atStart => exact ⟨0, by omega, rfl, HAL.out⟩
              case round =>
                obtain ⟨q, hgq, rfl, hal⟩ := hrel
                have HAL : Hid (AL w B Lb (.slice ta ts.length tc) (.slice ba bs.length bc) (.slice (some ⟨gb, 0, none⟩) ns.length nc) ts bs ns wr (Pw oT ts.length 0) (Pw oD bs.length 0) (Pw oI (n) (q))) := hal
                have iq : (0 : Int) ≤ (q : Int) := by omega
                obtain ⟨y0, y1, y2⟩ := three9 hal.l
                have hLz := hal.l.lt
                obtain ⟨b8, e8, hgz, hgc⟩ := hal.n.ss.get (j := n) (u := .slice xa xm xc) (by rw [List.getElem?_map, HX0.out]; rfl)
                cases e8
                obtain ⟨hq1, hq2⟩ := HQ.out
                have k1 : (n : Int) < (ns.length : Int) := by omega
                have hwj : IntKind.i64.wrap (-1 - (n : Int)) = -1 - (n : Int) := wrap_m (by omega)
                have hwk : wrap64 (-1 - (n : Int)) = -1 - (n : Int) := wrap_k (by omega)
                clear hal
                by_cases hqm : q < xm
                · have k2 : (q : Int) < (xm : Int) := by omega
                  obtain ⟨xg, rfl⟩ := HSH.out (by omega)
                  have HX : Hid (ns[n]? = some (.slice (some ⟨xg, 0, none⟩) xm xc, xm)) := HX0.out
                  obtain ⟨l9, h91, h92, -⟩ := HAL.out.n.i n _ HX.out
                  obtain ⟨⟨c0, e0⟩, f0⟩ := row_cell h92 (i := q * 1) (by omega)
                  rw [Nat.mul_one] at e0 f0
                  have HP : Hid (AL w B Lb (.slice ta ts.length tc) (.slice ba bs.length bc) (.slice (some ⟨gb, 0, none⟩) ns.length nc) ts bs ns (wr.setCell ⟨xg, q, none⟩ (.int .i64 (-1 - (n : Int)))) (Pw oT ts.length 0) (Pw oD bs.length 0) (Pw oI (n) (q + 1))) := by have := HAL.out.putN HX.out hqm; rw [Nat.mul_one] at this; exact this
                  clear h91 h92
                  go_wp2
                  go_roundg (gk - 1)
                  case measure => omega
                  case rel => exact ⟨q + 1, by omega, by go_num, HP.out⟩
                · have k2 : ¬ (q : Int) < (xm : Int) := by omega
                  obtain rfl : q = xm := by omega
                  have HN : Hid (AL w B Lb (.slice ta ts.length tc) (.slice ba bs.length bc) (.slice (some ⟨gb, 0, none⟩) ns.length nc) ts bs ns wr (Pw oT ts.length 0) (Pw oD bs.length 0) (Pw oI (n + 1) (0))) := HAL.out.nextN HX0.out
                  go_wp2
                  go_roundg G
                  case measure => omega
                  case rel => exact ⟨n + 1, by omega, by go_num, HN.out⟩
            · have k1 : ¬ (n : Int) < (ns.length : Int) := by omega
              obtain rfl : n = ns.length := by omega
              have HM0 : Hid (AM w B wr.heap.size Lb wr.heap.size (.slice ta ts.length tc) (.slice ba bs.length bc) (.slice na ns.length nc) ts bs ns (wr.alloc (.cells #[(.slice none 0 0), (.slice none 0 0), (.slice none 0 0)] 36)) (.slice none 0 0) (.slice none 0 0) (.slice none 0 0) [] [] [] 0 0 0) := AM.start HAL.out
              clear HAL HA0
              go_wp2
              clear y0 y1 y2 hLz
              revert HM0
              generalize wr.alloc (.cells #[(.slice none 0 0), (.slice none 0 0), (.slice none 0 0)] 36) = V
              generalize wr.heap.size = W2
              intro HM0
              go_loopg [10] ts.length (fun g i wr => ∃ n : Nat, n + g = ts.length ∧ i = .int .i64 (n : Int) ∧ ∃ u gs, AM w B W2 Lb W2 (.slice ta ts.length tc) (.slice ba bs.length bc) (.slice na ns.length nc) ts bs ns wr u (.slice none 0 0) (.slice none 0 0) gs [] [] n 0 0)
              case atStart => exact ⟨0, by omega, rfl, _, _, HM0.out⟩
              case round =>
                obtain ⟨n, hg, rfl, u, gs, ham⟩ := hrel
                have HAM : Hid (AM w B W2 Lb W2 (.slice ta ts.length tc) (.slice ba bs.length bc) (.slice na ns.length nc) ts bs ns wr u (.slice none 0 0) (.slice none 0 0) gs [] [] n 0 0) := ham
                have jn : (0 : Int) ≤ (n : Int) := by omega
                obtain ⟨y0, y1, y2⟩ := three9 ham.l
                have hLz := ham.l.lt
                clear ham HM0
                by_cases hnl : n < ts.length
                · have k1 : (n : Int) < (ts.length : Int) := by omega
                  obtain ⟨G9, rfl⟩ : ∃ G, gk = G + 1 := ⟨gk - 1, by omega⟩
                  obtain ⟨x, hx⟩ : ∃ z, ts[n]? = some z := ⟨_, List.getElem?_eq_getElem hnl⟩
                  obtain ⟨gb, rfl, hgz, hgc⟩ := (ss_of HAM.out.t.o').get (j := n) (u := x.1) (by rw [List.getElem?_map, hx]; rfl)
                  obtain ⟨xv, xm⟩ := x
                  simp only at hgc
                  have HX : Hid (ts[n]? = some (xv, xm)) := hx
                  have hxb : xm ≤ 1100000000000 := HTB.out _ (List.mem_of_getElem? hx)
                  have hwj : IntKind.i64.wrap (-1 - (n : Int)) = -1 - (n : Int) := wrap_m (by omega)
                  have hwk : wrap64 (-1 - (n : Int)) = -1 - (n : Int) := wrap_k (by omega)
                  clear hx
                  go_upto_region 26 with fail
                  have HA : Hid (AM w B W2 Lb W2 (.slice (some ⟨gb, 0, none⟩) ts.length tc) (.slice ba bs.length bc) (.slice na ns.length nc) ts bs ns wr.drew u (.slice none 0 0) (.slice none 0 0) gs [] [] n 0 0) := HAM.out.later (Below.refl _ _).drew
                  refine wp_region_held_drew (S := fun w' => Blk w' Lb #[(.slice (some ⟨gb, 0, none⟩) ts.length tc), (.slice ba bs.length bc), (.slice na ns.length nc)] 36 ∧ gb < w'.heap.size ∧ w'.cell? ⟨gb, n, none⟩ = some xv) (by kernel_rfl) (HAM.out.mdT.s HX.out) (fun hH => ?_)
                  revert hH HA
                  clear HAM
                  generalize wr.drew = V0
                  intro HA hH
                  refine wpAnyH_take (i := 0) (oi := ⟨_, _, _, _, _, _⟩) (v := .pointer (some ⟨W2, 0, none⟩)) rfl (by kernel_rfl) (by kernel_rfl) (by kernel_rfl) (fun _ _ _ h => h) (Or.inl ⟨by rfl, fun w' h => by clear h; go_simp⟩) hH ?_
                  simp only [Act.put, List.setIfInBounds_toArray, List.set_cons_zero, List.set_cons_succ]
                  refine wpAnyH_take (i := 2) (oi := ⟨_, _, _, _, _, _⟩) (v := .pointer (some ⟨Lb, 0, none⟩)) rfl (by kernel_rfl) (by kernel_rfl) (by kernel_rfl) (fun _ _ _ h => h) (Or.inl ⟨by rfl, fun w' h => by clear h; go_simp⟩) hH ?_
                  simp only [Act.put, List.setIfInBounds_toArray, List.set_cons_zero, List.set_cons_succ]
                  refine wpAnyH_take (i := 3) (oi := ⟨_, _, _, _, _, _⟩) (v := .pointer (some ⟨Lb, 0, none⟩)) rfl (by kernel_rfl) (by kernel_rfl) (by kernel_rfl) (fun _ _ _ h => h) (Or.inl ⟨by rfl, fun w' h => by clear h; go_simp⟩) hH ?_
                  simp only [Act.put, List.setIfInBounds_toArray, List.set_cons_zero, List.set_cons_succ]
                  refine wpAnyH_take (i := 4) (oi := ⟨_, _, _, _, _, _⟩) (v := .pointer (some ⟨Lb, 0, none⟩)) rfl (by kernel_rfl) (by kernel_rfl) (by kernel_rfl) (fun _ _ _ h => h) (Or.inl ⟨by rfl, fun w' h => by clear h; go_simp⟩) hH ?_
                  simp only [Act.put, List.setIfInBounds_toArray, List.set_cons_zero, List.set_cons_succ]
                  refine wpAnyH_take (i := 5) (oi := ⟨_, _, _, _, _, _⟩) (v := (.slice (some ⟨gb, 0, none⟩) ts.length tc)) rfl (by kernel_rfl) (by kernel_rfl) (by kernel_rfl) (fun _ _ _ h => h) (Or.inl ⟨by rfl, fun w' h => by obtain ⟨y0, y1, y2⟩ := three9 h.1; clear h; go_simp⟩) hH ?_
                  simp only [Act.put, List.setIfInBounds_toArray, List.set_cons_zero, List.set_cons_succ]
                  refine wpAnyH_take (i := 6) (oi := ⟨_, _, _, _, _, _⟩) (v := .int .i64 (n : Int)) rfl (by kernel_rfl) (by kernel_rfl) (by kernel_rfl) (fun _ _ _ h => h) (Or.inl ⟨by rfl, fun w' h => by clear h; go_simp⟩) hH ?_
                  simp only [Act.put, List.setIfInBounds_toArray, List.set_cons_zero, List.set_cons_succ]
                  refine wpAnyH_take (i := 7) (oi := ⟨_, _, _, _, _, _⟩) (v := .pointer (some ⟨gb, n, none⟩)) rfl (by kernel_rfl) (by kernel_rfl) (by kernel_rfl) (fun _ _ _ h => h) (Or.inl ⟨by rfl, fun w' h => by clear h; go_simp⟩) hH ?_
                  simp only [Act.put, List.setIfInBounds_toArray, List.set_cons_zero, List.set_cons_succ]
                  refine wpAnyH_take (i := 8) (oi := ⟨_, _, _, _, _, _⟩) (v := xv) rfl (by kernel_rfl) (by kernel_rfl) (by kernel_rfl) (fun _ _ _ h => h) (Or.inl ⟨by rfl, fun w' h => by have y0 := h.2.2; have z := h.2.1; clear h; go_simp⟩) hH ?_
                  simp only [Act.put, List.setIfInBounds_toArray, List.set_cons_zero, List.set_cons_succ]
                  refine wpAnyH_take (i := 9) (oi := ⟨_, _, _, _, _, _⟩) (v := .int .i64 (n : Int)) rfl (by kernel_rfl) (by kernel_rfl) (by kernel_rfl) (fun _ _ _ h => h) (Or.inl ⟨by rfl, fun w' h => by clear h; go_simp⟩) hH ?_
                  simp only [Act.put, List.setIfInBounds_toArray, List.set_cons_zero, List.set_cons_succ]
                  refine wpAnyH_ready (rs := [1, 10]) (by kernel_rfl) (by simp) ?_
                  refine (AllReadyH.cons (o := ⟨_, _, _, _, _, _⟩) rfl (fun K hK => ?_) (AllReadyH.cons (o := ⟨_, _, _, _, _, _⟩) rfl (fun K hK => ?_) AllReadyH.nil))
                  · obtain ⟨m0, m1, m2⟩ := three9 (HA.out).m
                    go_simp
                    refine hK.out _ _ hH (fun hH => ?_)
                    clear hK K m0 m1 m2
                    refine wpAnyH_ready (rs := [10]) (by kernel_rfl) (by simp) ?_
                    refine (AllReadyH.cons (o := ⟨_, _, _, _, _, _⟩) rfl (fun K hK => ?_) AllReadyH.nil)
                    go_simp
                    refine (HOW.out n _).mono ?_
                    rintro e V1 ⟨rfl, hb⟩
                    have HA1 : Hid (AM w B W2 Lb W2 (.slice (some ⟨gb, 0, none⟩) ts.length tc) (.slice ba bs.length bc) (.slice na ns.length nc) ts bs ns V1 u (.slice none 0 0) (.slice none 0 0) gs [] [] n 0 0) := HA.out.later hb
                    refine hK.out _ _ (HA1.out.mdT.s HX.out) (fun hH => ?_)
                    clear hK K hb HA
                    refine wpAnyH_ready (rs := [11]) (by kernel_rfl) (by simp) ?_
                    refine (AllReadyH.cons (o := ⟨_, _, _, _, _, _⟩) rfl (fun K hK => ?_) AllReadyH.nil)
                    go_simp
                    have HA2 : Hid (AM w B W2 Lb W2 (.slice (some ⟨gb, 0, none⟩) ts.length tc) (.slice ba bs.length bc) (.slice na ns.length nc) ts bs ns (V1.alloc (.cells #[.int .i64 (-7), .int .i64 (n : Int), .string oB] 23)) u (.slice none 0 0) (.slice none 0 0) gs [] [] n 0 0) := HA1.out.later (below1 _ _)
                    have HB2 : Hid (Blk (V1.alloc (.cells #[.int .i64 (-7), .int .i64 (n : Int), .string oB] 23)) V1.heap.size #[.int .i64 (-7), .int .i64 (n : Int), .string oB] 23) := Blk.new _ _ _
                    clear hH
                    refine hK.out _ _ (HA2.out.mdT.s HX.out) (fun hH => ?_)
                    clear hK K HA1
                    revert hH HA2 HB2
                    generalize V1.alloc (.cells #[.int .i64 (-7), .int .i64 (n : Int), .string oB] 23) = V2
                    generalize V1.heap.size = G1
                    intro HA2 HB2 hH
                    refine wpAnyH_ready (rs := [12]) (by kernel_rfl) (by simp) ?_
                    refine (AllReadyH.cons (o := ⟨_, _, _, _, _, _⟩) rfl (fun K hK => ?_) AllReadyH.nil)
                    refine in9T rfl _ _ rfl B xv xm _ (by rfl) (HA2.out.t.r n _ (Nat.le_refl _) HX.out) G1 #[.int .i64 (-7), .int .i64 (n : Int), .string oB] (by rfl) (by rfl) HB2.out (by intro q hq; simp at hq; rcases hq with rfl | rfl | rfl <;> rfl) (by omega) (Nat.le_trans HA2.out.w HA2.out.z) ?_
                    intro G V3 hp
                    obtain ⟨ga, gc, rfl⟩ := own_form9 hp.1
                    have HP3 : Hid (Ap B 23 3 V2 V3 xv xm (.slice ga (xm + 1) gc) ((List.replicate xm (oT n)).flatMap Tm.cs ++ Tm.cs (oT n))) := hp
                    have HM3 : Hid (Md B W2 Lb W2 #[(.slice (some ⟨gb, 0, none⟩) ts.length tc), (.slice ba bs.length bc), (.slice na ns.length nc)] #[u, (.slice none 0 0), (.slice none 0 0)] 24 (.slice (some ⟨gb, 0, none⟩) ts.length tc) u ts gs n V3) := HA2.out.mdT.ap hp (HA2.out.t.r n _ (Nat.le_refl _) HX.out) (by decide) (by decide)
                    clear hp hH HB2
                    refine hK.out _ _ (HM3.out.s HX.out) (fun hH => ?_)
                    clear hK K
                    simp only [Act.put, List.setIfInBounds_toArray, List.set_cons_zero, List.set_cons_succ]
                    refine wpAnyH_ready (rs := [13]) (by kernel_rfl) (by simp) ?_
                    refine (AllReadyH.cons (o := ⟨_, _, _, _, _, _⟩) rfl (fun K hK => ?_) AllReadyH.nil)
                    go_simp
                    have HP4 : Hid (Ap B 23 3 V2 (V3.alloc (.cells #[(.slice ga (xm + 1) gc)] 24)) xv xm (.slice ga (xm + 1) gc) ((List.replicate xm (oT n)).flatMap Tm.cs ++ Tm.cs (oT n))) := HP3.out.later (below1 _ _)
                    have HM4 : Hid (Md B W2 Lb W2 #[(.slice (some ⟨gb, 0, none⟩) ts.length tc), (.slice ba bs.length bc), (.slice na ns.length nc)] #[u, (.slice none 0 0), (.slice none 0 0)] 24 (.slice (some ⟨gb, 0, none⟩) ts.length tc) u ts gs n (V3.alloc (.cells #[(.slice ga (xm + 1) gc)] 24))) := HM3.out.later (below1 _ _)
                    have HB4 : Hid (Blk (V3.alloc (.cells #[(.slice ga (xm + 1) gc)] 24)) V3.heap.size #[(.slice ga (xm + 1) gc)] 24) := Blk.new _ _ _
                    clear hH HP3 HM3
                    refine hK.out _ _ (HM4.out.s HX.out) (fun hH => ?_)
                    clear hK K
                    revert hH HP4 HM4 HB4
                    generalize V3.alloc (.cells #[(.slice ga (xm + 1) gc)] 24) = V4
                    generalize V3.heap.size = G3
                    intro HP4 HM4 HB4 hH
                    refine wpAnyH_ready (rs := [14]) (by kernel_rfl) (by simp) ?_
                    refine (AllReadyH.cons (o := ⟨_, _, _, _, _, _⟩) rfl (fun K hK => ?_) AllReadyH.nil)
                    refine out9T rfl _ _ rfl W2 u n _ (by rfl) HM4.out.u' G3 #[(.slice ga (xm + 1) gc)] (by rfl) (by rfl) HB4.out (by intro q hq; simp at hq; subst hq; exact one_G HP4.out.1) (by omega) HM4.out.z ?_
                    intro u2 V5 hp
                    obtain ⟨ua, uc, rfl⟩ := own_form9 hp.1
                    have HP5 : Hid (Ap W2 24 1 V4 V5 u n (.slice ua (n + 1) uc) (gs.map (·.1) ++ [(.slice ga (xm + 1) gc)])) := hp
                    have HM5 : Hid (Md B W2 Lb W2 #[(.slice (some ⟨gb, 0, none⟩) ts.length tc), (.slice ba bs.length bc), (.slice na ns.length nc)] #[u, (.slice none 0 0), (.slice none 0 0)] 24 (.slice (some ⟨gb, 0, none⟩) ts.length tc) (.slice ua (n + 1) uc) ts (gs ++ [((.slice ga (xm + 1) gc), xm + 1)]) (n + 1) V5) := HM4.out.ap2 hp (by decide)
                    clear hp hH HB4
                    refine hK.out _ _ (HM5.out.s HX.out) (fun hH => ?_)
                    clear hK K
                    simp only [Act.put, List.setIfInBounds_toArray, List.set_cons_zero, List.set_cons_succ]
                    refine wpAnyH_take (i := 15) (oi := ⟨_, _, _, _, _, _⟩) (v := .pointer (some ⟨W2, 0, none⟩)) rfl (by kernel_rfl) (by kernel_rfl) (by kernel_rfl) (fun _ _ _ h => h) (Or.inl ⟨by rfl, fun w' h => by clear h; go_simp⟩) hH ?_
                    simp only [Act.put, List.setIfInBounds_toArray, List.set_cons_zero, List.set_cons_succ]
                    have HA9 : Hid (AM w B W2 Lb W2 (.slice (some ⟨gb, 0, none⟩) ts.length tc) (.slice ba bs.length bc) (.slice na ns.length nc) ts bs ns (V5.setCell ⟨W2, 0, none⟩ (.slice ua (n + 1) uc)) (.slice ua (n + 1) uc) (.slice none 0 0) (.slice none 0 0) (gs ++ [((.slice ga (xm + 1) gc), xm + 1)]) [] [] (n + 1) 0 0) := HA2.out.stepT HX.out HP4.out HP5.out
                    obtain ⟨m0, m1, m2⟩ := three9 HM5.out.m
                    have mf := frz9 HM5.out.m 0
                    refine wpAnyH_ready (rs := [16]) (by kernel_rfl) (by simp) ?_
                    refine (AllReadyH.cons (o := ⟨_, _, _, _, _, _⟩) rfl (fun K hK => ?_) AllReadyH.nil)
                    go_simp
                    refine hK.out _ _ (HA9.out.mdT.s HX.out) (fun hH => ?_)
                    clear hK K hH m0 m1 m2 mf HM4 HM5 HP4 HP5 HA2
                    refine wpAnyH_done (by kernel_rfl) ?_ _
                    go_wp2
                    go_roundg G9
                    case measure => omega
                    case rel => exact ⟨n + 1, by omega, by go_num, _, _, HA9.out⟩
                  · go_simp
                    refine (HOW.out n _).mono ?_
                    rintro e V1 ⟨rfl, hb⟩
                    have HA1 : Hid (AM w B W2 Lb W2 (.slice (some ⟨gb, 0, none⟩) ts.length tc) (.slice ba bs.length bc) (.slice na ns.length nc) ts bs ns V1 u (.slice none 0 0) (.slice none 0 0) gs [] [] n 0 0) := HA.out.later hb
                    refine hK.out _ _ (HA1.out.mdT.s HX.out) (fun hH => ?_)
                    clear hK K hb HA
                    refine wpAnyH_ready (rs := [1, 11]) (by kernel_rfl) (by simp) ?_
                    refine (AllReadyH.cons (o := ⟨_, _, _, _, _, _⟩) rfl (fun K hK => ?_) (AllReadyH.cons (o := ⟨_, _, _, _, _, _⟩) rfl (fun K hK => ?_) AllReadyH.nil))
                    · obtain ⟨m0, m1, m2⟩ := three9 (HA1.out).m
                      go_simp
                      refine hK.out _ _ hH (fun hH => ?_)
                      clear hK K m0 m1 m2
                      refine wpAnyH_ready (rs := [11]) (by kernel_rfl) (by simp) ?_
                      refine (AllReadyH.cons (o := ⟨_, _, _, _, _, _⟩) rfl (fun K hK => ?_) AllReadyH.nil)
                      go_simp
                      have HA2 : Hid (AM w B W2 Lb W2 (.slice (some ⟨gb, 0, none⟩) ts.length tc) (.slice ba bs.length bc) (.slice na ns.length nc) ts bs ns (V1.alloc (.cells #[.int .i64 (-7), .int .i64 (n : Int), .string oB] 23)) u (.slice none 0 0) (.slice none 0 0) gs [] [] n 0 0) := HA1.out.later (below1 _ _)
                      have HB2 : Hid (Blk (V1.alloc (.cells #[.int .i64 (-7), .int .i64 (n : Int), .string oB] 23)) V1.heap.size #[.int .i64 (-7), .int .i64 (n : Int), .string oB] 23) := Blk.new _ _ _
                      clear hH
                      refine hK.out _ _ (HA2.out.mdT.s HX.out) (fun hH => ?_)
                      clear hK K HA1
                      revert hH HA2 HB2
                      generalize V1.alloc (.cells #[.int .i64 (-7), .int .i64 (n : Int), .string oB] 23) = V2
                      generalize V1.heap.size = G1
                      intro HA2 HB2 hH
                      refine wpAnyH_ready (rs := [12]) (by kernel_rfl) (by simp) ?_
                      refine (AllReadyH.cons (o := ⟨_, _, _, _, _, _⟩) rfl (fun K hK => ?_) AllReadyH.nil)
                      refine in9T rfl _ _ rfl B xv xm _ (by rfl) (HA2.out.t.r n _ (Nat.le_refl _) HX.out) G1 #[.int .i64 (-7), .int .i64 (n : Int), .string oB] (by rfl) (by rfl) HB2.out (by intro q hq; simp at hq; rcases hq with rfl | rfl | rfl <;> rfl) (by omega) (Nat.le_trans HA2.out.w HA2.out.z) ?_
                      intro G V3 hp
                      obtain ⟨ga, gc, rfl⟩ := own_form9 hp.1
                      have HP3 : Hid (Ap B 23 3 V2 V3 xv xm (.slice ga (xm + 1) gc) ((List.replicate xm (oT n)).flatMap Tm.cs ++ Tm.cs (oT n))) := hp
                      have HM3 : Hid (Md B W2 Lb W2 #[(.slice (some ⟨gb, 0, none⟩) ts.length tc), (.slice ba bs.length bc), (.slice na ns.length nc)] #[u, (.slice none 0 0), (.slice none 0 0)] 24 (.slice (some ⟨gb, 0, none⟩) ts.length tc) u ts gs n V3) := HA2.out.mdT.ap hp (HA2.out.t.r n _ (Nat.le_refl _) HX.out) (by decide) (by decide)
                      clear hp hH HB2
                      refine hK.out _ _ (HM3.out.s HX.out) (fun hH => ?_)
                      clear hK K
                      simp only [Act.put, List.setIfInBounds_toArray, List.set_cons_zero, List.set_cons_succ]
                      refine wpAnyH_ready (rs := [13]) (by kernel_rfl) (by simp) ?_
                      refine (AllReadyH.cons (o := ⟨_, _, _, _, _, _⟩) rfl (fun K hK => ?_) AllReadyH.nil)
                      go_simp
                      have HP4 : Hid (Ap B 23 3 V2 (V3.alloc (.cells #[(.slice ga (xm + 1) gc)] 24)) xv xm (.slice ga (xm + 1) gc) ((List.replicate xm (oT n)).flatMap Tm.cs ++ Tm.cs (oT n))) := HP3.out.later (below1 _ _)
                      have HM4 : Hid (Md B W2 Lb W2 #[(.slice (some ⟨gb, 0, none⟩) ts.length tc), (.slice ba bs.length bc), (.slice na ns.length nc)] #[u, (.slice none 0 0), (.slice none 0 0)] 24 (.slice (some ⟨gb, 0, none⟩) ts.length tc) u ts gs n (V3.alloc (.cells #[(.slice ga (xm + 1) gc)] 24))) := HM3.out.later (below1 _ _)
                      have HB4 : Hid (Blk (V3.alloc (.cells #[(.slice ga (xm + 1) gc)] 24)) V3.heap.size #[(.slice ga (xm + 1) gc)] 24) := Blk.new _ _ _
                      clear hH HP3 HM3
                      refine hK.out _ _ (HM4.out.s HX.out) (fun hH => ?_)
                      clear hK K
                      revert hH HP4 HM4 HB4
                      generalize V3.alloc (.cells #[(.slice ga (xm + 1) gc)] 24) = V4
                      generalize V3.heap.size = G3
                      intro HP4 HM4 HB4 hH
                      refine wpAnyH_ready (rs := [14]) (by kernel_rfl) (by simp) ?_
                      refine (AllReadyH.cons (o := ⟨_, _, _, _, _, _⟩) rfl (fun K hK => ?_) AllReadyH.nil)
                      refine out9T rfl _ _ rfl W2 u n _ (by rfl) HM4.out.u' G3 #[(.slice ga (xm + 1) gc)] (by rfl) (by rfl) HB4.out (by intro q hq; simp at hq; subst hq; exact one_G HP4.out.1) (by omega) HM4.out.z ?_
                      intro u2 V5 hp
                      obtain ⟨ua, uc, rfl⟩ := own_form9 hp.1
                      have HP5 : Hid (Ap W2 24 1 V4 V5 u n (.slice ua (n + 1) uc) (gs.map (·.1) ++ [(.slice ga (xm + 1) gc)])) := hp
                      have HM5 : Hid (Md B W2 Lb W2 #[(.slice (some ⟨gb, 0, none⟩) ts.length tc), (.slice ba bs.length bc), (.slice na ns.length nc)] #[u, (.slice none 0 0), (.slice none 0 0)] 24 (.slice (some ⟨gb, 0, none⟩) ts.length tc) (.slice ua (n + 1) uc) ts (gs ++ [((.slice ga (xm + 1) gc), xm + 1)]) (n + 1) V5) := HM4.out.ap2 hp (by decide)
                      clear hp hH HB4
                      refine hK.out _ _ (HM5.out.s HX.out) (fun hH => ?_)
                      clear hK K
                      simp only [Act.put, List.setIfInBounds_toArray, List.set_cons_zero, List.set_cons_succ]
                      refine wpAnyH_take (i := 15) (oi := ⟨_, _, _, _, _, _⟩) (v := .pointer (some ⟨W2, 0, none⟩)) rfl (by kernel_rfl) (by kernel_rfl) (by kernel_rfl) (fun _ _ _ h => h) (Or.inl ⟨by rfl, fun w' h => by clear h; go_simp⟩) hH ?_
                      simp only [Act.put, List.setIfInBounds_toArray, List.set_cons_zero, List.set_cons_succ]
                      have HA9 : Hid (AM w B W2 Lb W2 (.slice (some ⟨gb, 0, none⟩) ts.length tc) (.slice ba bs.length bc) (.slice na ns.length nc) ts bs ns (V5.setCell ⟨W2, 0, none⟩ (.slice ua (n + 1) uc)) (.slice ua (n + 1) uc) (.slice none 0 0) (.slice none 0 0) (gs ++ [((.slice ga (xm + 1) gc), xm + 1)]) [] [] (n + 1) 0 0) := HA2.out.stepT HX.out HP4.out HP5.out
                      obtain ⟨m0, m1, m2⟩ := three9 HM5.out.m
                      have mf := frz9 HM5.out.m 0
                      refine wpAnyH_ready (rs := [16]) (by kernel_rfl) (by simp) ?_
                      refine (AllReadyH.cons (o := ⟨_, _, _, _, _, _⟩) rfl (fun K hK => ?_) AllReadyH.nil)
                      go_simp
                      refine hK.out _ _ (HA9.out.mdT.s HX.out) (fun hH => ?_)
                      clear hK K hH m0 m1 m2 mf HM4 HM5 HP4 HP5 HA2
                      refine wpAnyH_done (by kernel_rfl) ?_ _
                      go_wp2
                      go_roundg G9
                      case measure => omega
                      case rel => exact ⟨n + 1, by omega, by go_num, _, _, HA9.out⟩
                    · go_simp
                      have HA2 : Hid (AM w B W2 Lb W2 (.slice (some ⟨gb, 0, none⟩) ts.length tc) (.slice ba bs.length bc) (.slice na ns.length nc) ts bs ns (V1.alloc (.cells #[.int .i64 (-7), .int .i64 (n : Int), .string oB] 23)) u (.slice none 0 0) (.slice none 0 0) gs [] [] n 0 0) := HA1.out.later (below1 _ _)
                      have HB2 : Hid (Blk (V1.alloc (.cells #[.int .i64 (-7), .int .i64 (n : Int), .string oB] 23)) V1.heap.size #[.int .i64 (-7), .int .i64 (n : Int), .string oB] 23) := Blk.new _ _ _
                      clear hH
                      refine hK.out _ _ (HA2.out.mdT.s HX.out) (fun hH => ?_)
                      clear hK K HA1
                      revert hH HA2 HB2
                      generalize V1.alloc (.cells #[.int .i64 (-7), .int .i64 (n : Int), .string oB] 23) = V2
                      generalize V1.heap.size = G1
                      intro HA2 HB2 hH
                      refine wpAnyH_ready (rs := [1, 12]) (by kernel_rfl) (by simp) ?_
                      refine (AllReadyH.cons (o := ⟨_, _, _, _, _, _⟩) rfl (fun K hK => ?_) (AllReadyH.cons (o := ⟨_, _, _, _, _, _⟩) rfl (fun K hK => ?_) AllReadyH.nil))
                      · obtain ⟨m0, m1, m2⟩ := three9 (HA2.out).m
                        go_simp
                        refine hK.out _ _ hH (fun hH => ?_)
                        clear hK K m0 m1 m2
                        refine wpAnyH_ready (rs := [12]) (by kernel_rfl) (by simp) ?_
                        refine (AllReadyH.cons (o := ⟨_, _, _, _, _, _⟩) rfl (fun K hK => ?_) AllReadyH.nil)
                        refine in9T rfl _ _ rfl B xv xm _ (by rfl) (HA2.out.t.r n _ (Nat.le_refl _) HX.out) G1 #[.int .i64 (-7), .int .i64 (n : Int), .string oB] (by rfl) (by rfl) HB2.out (by intro q hq; simp at hq; rcases hq with rfl | rfl | rfl <;> rfl) (by omega) (Nat.le_trans HA2.out.w HA2.out.z) ?_
                        intro G V3 hp
                        obtain ⟨ga, gc, rfl⟩ := own_form9 hp.1
                        have HP3 : Hid (Ap B 23 3 V2 V3 xv xm (.slice ga (xm + 1) gc) ((List.replicate xm (oT n)).flatMap Tm.cs ++ Tm.cs (oT n))) := hp
                        have HM3 : Hid (Md B W2 Lb W2 #[(.slice (some ⟨gb, 0, none⟩) ts.length tc), (.slice ba bs.length bc), (.slice na ns.length nc)] #[u, (.slice none 0 0), (.slice none 0 0)] 24 (.slice (some ⟨gb, 0, none⟩) ts.length tc) u ts gs n V3) := HA2.out.mdT.ap hp (HA2.out.t.r n _ (Nat.le_refl _) HX.out) (by decide) (by decide)
                        clear hp hH HB2
                        refine hK.out _ _ (HM3.out.s HX.out) (fun hH => ?_)
                        clear hK K
                        simp only [Act.put, List.setIfInBounds_toArray, List.set_cons_zero, List.set_cons_succ]
                        refine wpAnyH_ready (rs := [13]) (by kernel_rfl) (by simp) ?_
                        refine (AllReadyH.cons (o := ⟨_, _, _, _, _, _⟩) rfl (fun K hK => ?_) AllReadyH.nil)
                        go_simp
                        have HP4 : Hid (Ap B 23 3 V2 (V3.alloc (.cells #[(.slice ga (xm + 1) gc)] 24)) xv xm (.slice ga (xm + 1) gc) ((List.replicate xm (oT n)).flatMap Tm.cs ++ Tm.cs (oT n))) := HP3.out.later (below1 _ _)
                        have HM4 : Hid (Md B W2 Lb W2 #[(.slice (some ⟨gb, 0, none⟩) ts.length tc), (.slice ba bs.length bc), (.slice na ns.length nc)] #[u, (.slice none 0 0), (.slice none 0 0)] 24 (.slice (some ⟨gb, 0, none⟩) ts.length tc) u ts gs n (V3.alloc (.cells #[(.slice ga (xm + 1) gc)] 24))) := HM3.out.later (below1 _ _)
                        have HB4 : Hid (Blk (V3.alloc (.cells #[(.slice ga (xm + 1) gc)] 24)) V3.heap.size #[(.slice ga (xm + 1) gc)] 24) := Blk.new _ _ _
                        clear hH HP3 HM3
                        refine hK.out _ _ (HM4.out.s HX.out) (fun hH => ?_)
                        clear hK K
                        revert hH HP4 HM4 HB4
                        generalize V3.alloc (.cells #[(.slice ga (xm + 1) gc)] 24) = V4
                        generalize V3.heap.size = G3
                        intro HP4 HM4 HB4 hH
                        refine wpAnyH_ready (rs := [14]) (by kernel_rfl) (by simp) ?_
                        refine (AllReadyH.cons (o := ⟨_, _, _, _, _, _⟩) rfl (fun K hK => ?_) AllReadyH.nil)
                        refine out9T rfl _ _ rfl W2 u n _ (by rfl) HM4.out.u' G3 #[(.slice ga (xm + 1) gc)] (by rfl) (by rfl) HB4.out (by intro q hq; simp at hq; subst hq; exact one_G HP4.out.1) (by omega) HM4.out.z ?_
                        intro u2 V5 hp
                        obtain ⟨ua, uc, rfl⟩ := own_form9 hp.1
                        have HP5 : Hid (Ap W2 24 1 V4 V5 u n (.slice ua (n + 1) uc) (gs.map (·.1) ++ [(.slice ga (xm + 1) gc)])) := hp
                        have HM5 : Hid (Md B W2 Lb W2 #[(.slice (some ⟨gb, 0, none⟩) ts.length tc), (.slice ba bs.length bc), (.slice na ns.length nc)] #[u, (.slice none 0 0), (.slice none 0 0)] 24 (.slice (some ⟨gb, 0, none⟩) ts.length tc) (.slice ua (n + 1) uc) ts (gs ++ [((.slice ga (xm + 1) gc), xm + 1)]) (n + 1) V5) := HM4.out.ap2 hp (by decide)
                        clear hp hH HB4
                        refine hK.out _ _ (HM5.out.s HX.out) (fun hH => ?_)
                        clear hK K
                        simp only [Act.put, List.setIfInBounds_toArray, List.set_cons_zero, List.set_cons_succ]
                        refine wpAnyH_take (i := 15) (oi := ⟨_, _, _, _, _, _⟩) (v := .pointer (some ⟨W2, 0, none⟩)) rfl (by kernel_rfl) (by kernel_rfl) (by kernel_rfl) (fun _ _ _ h => h) (Or.inl ⟨by rfl, fun w' h => by clear h; go_simp⟩) hH ?_
                        simp only [Act.put, List.setIfInBounds_toArray, List.set_cons_zero, List.set_cons_succ]
                        have HA9 : Hid (AM w B W2 Lb W2 (.slice (some ⟨gb, 0, none⟩) ts.length tc) (.slice ba bs.length bc) (.slice na ns.length nc) ts bs ns (V5.setCell ⟨W2, 0, none⟩ (.slice ua (n + 1) uc)) (.slice ua (n + 1) uc) (.slice none 0 0) (.slice none 0 0) (gs ++ [((.slice ga (xm + 1) gc), xm + 1)]) [] [] (n + 1) 0 0) := HA2.out.stepT HX.out HP4.out HP5.out
                        obtain ⟨m0, m1, m2⟩ := three9 HM5.out.m
                        have mf := frz9 HM5.out.m 0
                        refine wpAnyH_ready (rs := [16]) (by kernel_rfl) (by simp) ?_
                        refine (AllReadyH.cons (o := ⟨_, _, _, _, _, _⟩) rfl (fun K hK => ?_) AllReadyH.nil)
                        go_simp
                        refine hK.out _ _ (HA9.out.mdT.s HX.out) (fun hH => ?_)
                        clear hK K hH m0 m1 m2 mf HM4 HM5 HP4 HP5 HA2
                        refine wpAnyH_done (by kernel_rfl) ?_ _
                        go_wp2
                        go_roundg G9
                        case measure => omega
                        case rel => exact ⟨n + 1, by omega, by go_num, _, _, HA9.out⟩
                      · refine in9T rfl _ _ rfl B xv xm _ (by rfl) (HA2.out.t.r n _ (Nat.le_refl _) HX.out) G1 #[.int .i64 (-7), .int .i64 (n : Int), .string oB] (by rfl) (by rfl) HB2.out (by intro q hq; simp at hq; rcases hq with rfl | rfl | rfl <;> rfl) (by omega) (Nat.le_trans HA2.out.w HA2.out.z) ?_
                        intro G V3 hp
                        obtain ⟨ga, gc, rfl⟩ := own_form9 hp.1
                        have HP3 : Hid (Ap B 23 3 V2 V3 xv xm (.slice ga (xm + 1) gc) ((List.replicate xm (oT n)).flatMap Tm.cs ++ Tm.cs (oT n))) := hp
                        have HM3 : Hid (Md B W2 Lb W2 #[(.slice (some ⟨gb, 0, none⟩) ts.length tc), (.slice ba bs.length bc), (.slice na ns.length nc)] #[u, (.slice none 0 0), (.slice none 0 0)] 24 (.slice (some ⟨gb, 0, none⟩) ts.length tc) u ts gs n V3) := HA2.out.mdT.ap hp (HA2.out.t.r n _ (Nat.le_refl _) HX.out) (by decide) (by decide)
                        clear hp hH HB2
                        refine hK.out _ _ (HM3.out.s HX.out) (fun hH => ?_)
                        clear hK K
                        simp only [Act.put, List.setIfInBounds_toArray, List.set_cons_zero, List.set_cons_succ]
                        refine wpAnyH_ready (rs := [1, 13]) (by kernel_rfl) (by simp) ?_
                        refine (AllReadyH.cons (o := ⟨_, _, _, _, _, _⟩) rfl (fun K hK => ?_) (AllReadyH.cons (o := ⟨_, _, _, _, _, _⟩) rfl (fun K hK => ?_) AllReadyH.nil))
                        · obtain ⟨m0, m1, m2⟩ := three9 (HM3.out).m
                          go_simp
                          refine hK.out _ _ hH (fun hH => ?_)
                          clear hK K m0 m1 m2
                          refine wpAnyH_ready (rs := [13]) (by kernel_rfl) (by simp) ?_
                          refine (AllReadyH.cons (o := ⟨_, _, _, _, _, _⟩) rfl (fun K hK => ?_) AllReadyH.nil)
                          go_simp
                          have HP4 : Hid (Ap B 23 3 V2 (V3.alloc (.cells #[(.slice ga (xm + 1) gc)] 24)) xv xm (.slice ga (xm + 1) gc) ((List.replicate xm (oT n)).flatMap Tm.cs ++ Tm.cs (oT n))) := HP3.out.later (below1 _ _)
                          have HM4 : Hid (Md B W2 Lb W2 #[(.slice (some ⟨gb, 0, none⟩) ts.length tc), (.slice ba bs.length bc), (.slice na ns.length nc)] #[u, (.slice none 0 0), (.slice none 0 0)] 24 (.slice (some ⟨gb, 0, none⟩) ts.length tc) u ts gs n (V3.alloc (.cells #[(.slice ga (xm + 1) gc)] 24))) := HM3.out.later (below1 _ _)
                          have HB4 : Hid (Blk (V3.alloc (.cells #[(.slice ga (xm + 1) gc)] 24)) V3.heap.size #[(.slice ga (xm + 1) gc)] 24) := Blk.new _ _ _
                          clear hH HP3 HM3
                          refine hK.out _ _ (HM4.out.s HX.out) (fun hH => ?_)
                          clear hK K
                          revert hH HP4 HM4 HB4
                          generalize V3.alloc (.cells #[(.slice ga (xm + 1) gc)] 24) = V4
                          generalize V3.heap.size = G3
                          intro HP4 HM4 HB4 hH
                          refine wpAnyH_ready (rs := [14]) (by kernel_rfl) (by simp) ?_
                          refine (AllReadyH.cons (o := ⟨_, _, _, _, _, _⟩) rfl (fun K hK => ?_) AllReadyH.nil)
                          refine out9T rfl _ _ rfl W2 u n _ (by rfl) HM4.out.u' G3 #[(.slice ga (xm + 1) gc)] (by rfl) (by rfl) HB4.out (by intro q hq; simp at hq; subst hq; exact one_G HP4.out.1) (by omega) HM4.out.z ?_
                          intro u2 V5 hp
                          obtain ⟨ua, uc, rfl⟩ := own_form9 hp.1
                          have HP5 : Hid (Ap W2 24 1 V4 V5 u n (.slice ua (n + 1) uc) (gs.map (·.1) ++ [(.slice ga (xm + 1) gc)])) := hp
                          have HM5 : Hid (Md B W2 Lb W2 #[(.slice (some ⟨gb, 0, none⟩) ts.length tc), (.slice ba bs.length bc), (.slice na ns.length nc)] #[u, (.slice none 0 0), (.slice none 0 0)] 24 (.slice (some ⟨gb, 0, none⟩) ts.length tc) (.slice ua (n + 1) uc) ts (gs ++ [((.slice ga (xm + 1) gc), xm + 1)]) (n + 1) V5) := HM4.out.ap2 hp (by decide)
                          clear hp hH HB4
                          refine hK.out _ _ (HM5.out.s HX.out) (fun hH => ?_)
                          clear hK K
                          simp only [Act.put, List.setIfInBounds_toArray, List.set_cons_zero, List.set_cons_succ]
                          refine wpAnyH_take (i := 15) (oi := ⟨_, _, _, _, _, _⟩) (v := .pointer (some ⟨W2, 0, none⟩)) rfl (by kernel_rfl) (by kernel_rfl) (by kernel_rfl) (fun _ _ _ h => h) (Or.inl ⟨by rfl, fun w' h => by clear h; go_simp⟩) hH ?_
                          simp only [Act.put, List.setIfInBounds_toArray, List.set_cons_zero, List.set_cons_succ]
                          have HA9 : Hid (AM w B W2 Lb W2 (.slice (some ⟨gb, 0, none⟩) ts.length tc) (.slice ba bs.length bc) (.slice na ns.length nc) ts bs ns (V5.setCell ⟨W2, 0, none⟩ (.slice ua (n + 1) uc)) (.slice ua (n + 1) uc) (.slice none 0 0) (.slice none 0 0) (gs ++ [((.slice ga (xm + 1) gc), xm + 1)]) [] [] (n + 1) 0 0) := HA2.out.stepT HX.out HP4.out HP5.out
                          obtain ⟨m0, m1, m2⟩ := three9 HM5.out.m
                          have mf := frz9 HM5.out.m 0
                          refine wpAnyH_ready (rs := [16]) (by kernel_rfl) (by simp) ?_
                          refine (AllReadyH.cons (o := ⟨_, _, _, _, _, _⟩) rfl (fun K hK => ?_) AllReadyH.nil)
                          go_simp
                          refine hK.out _ _ (HA9.out.mdT.s HX.out) (fun hH => ?_)
                          clear hK K hH m0 m1 m2 mf HM4 HM5 HP4 HP5 HA2
                          refine wpAnyH_done (by kernel_rfl) ?_ _
                          go_wp2
                          go_roundg G9
                          case measure => omega
                          case rel => exact ⟨n + 1, by omega, by go_num, _, _, HA9.out⟩
                        · go_simp
                          have HP4 : Hid (Ap B 23 3 V2 (V3.alloc (.cells #[(.slice ga (xm + 1) gc)] 24)) xv xm (.slice ga (xm + 1) gc) ((List.replicate xm (oT n)).flatMap Tm.cs ++ Tm.cs (oT n))) := HP3.out.later (below1 _ _)
                          have HM4 : Hid (Md B W2 Lb W2 #[(.slice (some ⟨gb, 0, none⟩) ts.length tc), (.slice ba bs.length bc), (.slice na ns.length nc)] #[u, (.slice none 0 0), (.slice none 0 0)] 24 (.slice (some ⟨gb, 0, none⟩) ts.length tc) u ts gs n (V3.alloc (.cells #[(.slice ga (xm + 1) gc)] 24))) := HM3.out.later (below1 _ _)
                          have HB4 : Hid (Blk (V3.alloc (.cells #[(.slice ga (xm + 1) gc)] 24)) V3.heap.size #[(.slice ga (xm + 1) gc)] 24) := Blk.new _ _ _
                          clear hH HP3 HM3
                          refine hK.out _ _ (HM4.out.s HX.out) (fun hH => ?_)
                          clear hK K
                          revert hH HP4 HM4 HB4
                          generalize V3.alloc (.cells #[(.slice ga (xm + 1) gc)] 24) = V4
                          generalize V3.heap.size = G3
                          intro HP4 HM4 HB4 hH
                          refine wpAnyH_ready (rs := [1]) (by kernel_rfl) (by simp) ?_
                          refine (AllReadyH.cons (o := ⟨_, _, _, _, _, _⟩) rfl (fun K hK => ?_) AllReadyH.nil)
                          obtain ⟨m0, m1, m2⟩ := three9 (HM4.out).m
                          go_simp
                          refine hK.out _ _ hH (fun hH => ?_)
                          clear hK K m0 m1 m2
                          refine wpAnyH_ready (rs := [14]) (by kernel_rfl) (by simp) ?_
                          refine (AllReadyH.cons (o := ⟨_, _, _, _, _, _⟩) rfl (fun K hK => ?_) AllReadyH.nil)
                          refine out9T rfl _ _ rfl W2 u n _ (by rfl) HM4.out.u' G3 #[(.slice ga (xm + 1) gc)] (by rfl) (by rfl) HB4.out (by intro q hq; simp at hq; subst hq; exact one_G HP4.out.1) (by omega) HM4.out.z ?_
                          intro u2 V5 hp
                          obtain ⟨ua, uc, rfl⟩ := own_form9 hp.1
                          have HP5 : Hid (Ap W2 24 1 V4 V5 u n (.slice ua (n + 1) uc) (gs.map (·.1) ++ [(.slice ga (xm + 1) gc)])) := hp
                          have HM5 : Hid (Md B W2 Lb W2 #[(.slice (some ⟨gb, 0, none⟩) ts.length tc), (.slice ba bs.length bc), (.slice na ns.length nc)] #[u, (.slice none 0 0), (.slice none 0 0)] 24 (.slice (some ⟨gb, 0, none⟩) ts.length tc) (.slice ua (n + 1) uc) ts (gs ++ [((.slice ga (xm + 1) gc), xm + 1)]) (n + 1) V5) := HM4.out.ap2 hp (by decide)
                          clear hp hH HB4
                          refine hK.out _ _ (HM5.out.s HX.out) (fun hH => ?_)
                          clear hK K
                          simp only [Act.put, List.setIfInBounds_toArray, List.set_cons_zero, List.set_cons_succ]
                          refine wpAnyH_take (i := 15) (oi := ⟨_, _, _, _, _, _⟩) (v := .pointer (some ⟨W2, 0, none⟩)) rfl (by kernel_rfl) (by kernel_rfl) (by kernel_rfl) (fun _ _ _ h => h) (Or.inl ⟨by rfl, fun w' h => by clear h; go_simp⟩) hH ?_
                          simp only [Act.put, List.setIfInBounds_toArray, List.set_cons_zero, List.set_cons_succ]
                          have HA9 : Hid (AM w B W2 Lb W2 (.slice (some ⟨gb, 0, none⟩) ts.length tc) (.slice ba bs.length bc) (.slice na ns.length nc) ts bs ns (V5.setCell ⟨W2, 0, none⟩ (.slice ua (n + 1) uc)) (.slice ua (n + 1) uc) (.slice none 0 0) (.slice none 0 0) (gs ++ [((.slice ga (xm + 1) gc), xm + 1)]) [] [] (n + 1) 0 0) := HA2.out.stepT HX.out HP4.out HP5.out
                          obtain ⟨m0, m1, m2⟩ := three9 HM5.out.m
                          have mf := frz9 HM5.out.m 0
                          refine wpAnyH_ready (rs := [16]) (by kernel_rfl) (by simp) ?_
                          refine (AllReadyH.cons (o := ⟨_, _, _, _, _, _⟩) rfl (fun K hK => ?_) AllReadyH.nil)
                          go_simp
                          refine hK.out _ _ (HA9.out.mdT.s HX.out) (fun hH => ?_)
                          clear hK K hH m0 m1 m2 mf HM4 HM5 HP4 HP5 HA2
                          refine wpAnyH_done (by kernel_rfl) ?_ _
                          go_wp2
                          go_roundg G9
                          case measure => omega
                          case rel => exact ⟨n + 1, by omega, by go_num, _, _, HA9.out⟩
                · have k1 : ¬ (n : Int) < (ts.length : Int) := by omega
                  obtain rfl : n = ts.length := by omega
                  have HM0 : Hid (AM w B W2 Lb W2 (.slice ta ts.length tc) (.slice ba bs.length bc) (.slice na ns.length nc) ts bs ns wr u (.slice none 0 0) (.slice none 0 0) gs [] [] ts.length 0 0) := HAM.out
                  clear HAM
                  go_wp2
                  revert HM0
                  generalize u = uT
                  generalize gs = gT
                  intro HM0
                  go_loopg [11] bs.length (fun g i wr => ∃ n : Nat, n + g = bs.length ∧ i = .int .i64 (n : Int) ∧ ∃ u gs, AM w B W2 Lb W2 (.slice ta ts.length tc) (.slice ba bs.length bc) (.slice na ns.length nc) ts bs ns wr uT u (.slice none 0 0) gT gs [] ts.length n 0)
                  case atStart => exact ⟨0, by omega, rfl, _, _, HM0.out⟩
                  case round =>
                    obtain ⟨n, hg, rfl, u, gs, ham⟩ := hrel
                    have HAM : Hid (AM w B W2 Lb W2 (.slice ta ts.length tc) (.slice ba bs.length bc) (.slice na ns.length nc) ts bs ns wr uT u (.slice none 0 0) gT gs [] ts.length n 0) := ham
                    have jn : (0 : Int) ≤ (n : Int) := by omega
                    obtain ⟨y0, y1, y2⟩ := three9 ham.l
                    have hLz := ham.l.lt
                    clear ham HM0
                    by_cases hnl : n < bs.length
                    · have k1 : (n : Int) < (bs.length : Int) := by omega
                      obtain ⟨G9, rfl⟩ : ∃ G, gk = G + 1 := ⟨gk - 1, by omega⟩
                      obtain ⟨x, hx⟩ : ∃ z, bs[n]? = some z := ⟨_, List.getElem?_eq_getElem hnl⟩
                      obtain ⟨gb, rfl, hgz, hgc⟩ := (ss_of HAM.out.b'.o').get (j := n) (u := x.1) (by rw [List.getElem?_map, hx]; rfl)
                      obtain ⟨xv, xm⟩ := x
                      simp only at hgc
                      have HX : Hid (bs[n]? = some (xv, xm)) := hx
                      have hxb : xm ≤ 1100000000000 := HBB.out _ (List.mem_of_getElem? hx)
                      have hwj : IntKind.i64.wrap (-1 - (n : Int)) = -1 - (n : Int) := wrap_m (by omega)
                      have hwk : wrap64 (-1 - (n : Int)) = -1 - (n : Int) := wrap_k (by omega)
                      clear hx
                      go_upto_region 30 with fail
                      have HA : Hid (AM w B W2 Lb W2 (.slice ta ts.length tc) (.slice (some ⟨gb, 0, none⟩) bs.length bc) (.slice na ns.length nc) ts bs ns wr.drew uT u (.slice none 0 0) gT gs [] ts.length n 0) := HAM.out.later (Below.refl _ _).drew
                      refine wp_region_held_drew (S := fun w' => Blk w' Lb #[(.slice ta ts.length tc), (.slice (some ⟨gb, 0, none⟩) bs.length bc), (.slice na ns.length nc)] 36 ∧ gb < w'.heap.size ∧ w'.cell? ⟨gb, n, none⟩ = some xv) (by kernel_rfl) (HAM.out.mdB.s HX.out) (fun hH => ?_)
                      revert hH HA
                      clear HAM
                      generalize wr.drew = V0
                      intro HA hH
                      refine wpAnyH_take (i := 0) (oi := ⟨_, _, _, _, _, _⟩) (v := .pointer (some ⟨W2, 1, none⟩)) rfl (by kernel_rfl) (by kernel_rfl) (by kernel_rfl) (fun _ _ _ h => h) (Or.inl ⟨by rfl, fun w' h => by clear h; go_simp⟩) hH ?_
                      simp only [Act.put, List.setIfInBounds_toArray, List.set_cons_zero, List.set_cons_succ]
                      refine wpAnyH_take (i := 2) (oi := ⟨_, _, _, _, _, _⟩) (v := .pointer (some ⟨Lb, 0, none⟩)) rfl (by kernel_rfl) (by kernel_rfl) (by kernel_rfl) (fun _ _ _ h => h) (Or.inl ⟨by rfl, fun w' h => by clear h; go_simp⟩) hH ?_
                      simp only [Act.put, List.setIfInBounds_toArray, List.set_cons_zero, List.set_cons_succ]
                      refine wpAnyH_take (i := 3) (oi := ⟨_, _, _, _, _, _⟩) (v := .pointer (some ⟨Lb, 0, none⟩)) rfl (by kernel_rfl) (by kernel_rfl) (by kernel_rfl) (fun _ _ _ h => h) (Or.inl ⟨by rfl, fun w' h => by clear h; go_simp⟩) hH ?_
                      simp only [Act.put, List.setIfInBounds_toArray, List.set_cons_zero, List.set_cons_succ]
                      refine wpAnyH_take (i := 4) (oi := ⟨_, _, _, _, _, _⟩) (v := .pointer (some ⟨Lb, 1, none⟩)) rfl (by kernel_rfl) (by kernel_rfl) (by kernel_rfl) (fun _ _ _ h => h) (Or.inl ⟨by rfl, fun w' h => by clear h; go_simp⟩) hH ?_
                      simp only [Act.put, List.setIfInBounds_toArray, List.set_cons_zero, List.set_cons_succ]
                      refine wpAnyH_take (i := 5) (oi := ⟨_, _, _, _, _, _⟩) (v := (.slice (some ⟨gb, 0, none⟩) bs.length bc)) rfl (by kernel_rfl) (by kernel_rfl) (by kernel_rfl) (fun _ _ _ h => h) (Or.inl ⟨by rfl, fun w' h => by obtain ⟨y0, y1, y2⟩ := three9 h.1; clear h; go_simp⟩) hH ?_
                      simp only [Act.put, List.setIfInBounds_toArray, List.set_cons_zero, List.set_cons_succ]
                      refine wpAnyH_take (i := 6) (oi := ⟨_, _, _, _, _, _⟩) (v := .int .i64 (n : Int)) rfl (by kernel_rfl) (by kernel_rfl) (by kernel_rfl) (fun _ _ _ h => h) (Or.inl ⟨by rfl, fun w' h => by clear h; go_simp⟩) hH ?_
                      simp only [Act.put, List.setIfInBounds_toArray, List.set_cons_zero, List.set_cons_succ]
                      refine wpAnyH_take (i := 7) (oi := ⟨_, _, _, _, _, _⟩) (v := .pointer (some ⟨gb, n, none⟩)) rfl (by kernel_rfl) (by kernel_rfl) (by kernel_rfl) (fun _ _ _ h => h) (Or.inl ⟨by rfl, fun w' h => by clear h; go_simp⟩) hH ?_
                      simp only [Act.put, List.setIfInBounds_toArray, List.set_cons_zero, List.set_cons_succ]
                      refine wpAnyH_take (i := 8) (oi := ⟨_, _, _, _, _, _⟩) (v := xv) rfl (by kernel_rfl) (by kernel_rfl) (by kernel_rfl) (fun _ _ _ h => h) (Or.inl ⟨by rfl, fun w' h => by have y0 := h.2.2; have z := h.2.1; clear h; go_simp⟩) hH ?_
                      simp only [Act.put, List.setIfInBounds_toArray, List.set_cons_zero, List.set_cons_succ]
                      refine wpAnyH_take (i := 9) (oi := ⟨_, _, _, _, _, _⟩) (v := .int .i64 (n : Int)) rfl (by kernel_rfl) (by kernel_rfl) (by kernel_rfl) (fun _ _ _ h => h) (Or.inl ⟨by rfl, fun w' h => by clear h; go_simp⟩) hH ?_
                      simp only [Act.put, List.setIfInBounds_toArray, List.set_cons_zero, List.set_cons_succ]
                      refine wpAnyH_take (i := 10) (oi := ⟨_, _, _, _, _, _⟩) (v := .int .i64 (-1 - (n : Int))) rfl (by kernel_rfl) (by kernel_rfl) (by kernel_rfl) (fun _ _ _ h => h) (Or.inl ⟨by rfl, fun w' h => by clear h; go_simp⟩) hH ?_
                      simp only [Act.put, List.setIfInBounds_toArray, List.set_cons_zero, List.set_cons_succ]
                      refine wpAnyH_take (i := 11) (oi := ⟨_, _, _, _, _, _⟩) (v := .int .i64 (n : Int)) rfl (by kernel_rfl) (by kernel_rfl) (by kernel_rfl) (fun _ _ _ h => h) (Or.inl ⟨by rfl, fun w' h => by clear h; go_simp⟩) hH ?_
                      simp only [Act.put, List.setIfInBounds_toArray, List.set_cons_zero, List.set_cons_succ]
                      refine wpAnyH_ready (rs := [1, 12]) (by kernel_rfl) (by simp) ?_
                      refine (AllReadyH.cons (o := ⟨_, _, _, _, _, _⟩) rfl (fun K hK => ?_) (AllReadyH.cons (o := ⟨_, _, _, _, _, _⟩) rfl (fun K hK => ?_) AllReadyH.nil))
                      · obtain ⟨m0, m1, m2⟩ := three9 (HA.out).m
                        go_simp
                        refine hK.out _ _ hH (fun hH => ?_)
                        clear hK K m0 m1 m2
                        refine wpAnyH_ready (rs := [12]) (by kernel_rfl) (by simp) ?_
                        refine (AllReadyH.cons (o := ⟨_, _, _, _, _, _⟩) rfl (fun K hK => ?_) AllReadyH.nil)
                        go_simp
                        refine (HOW.out n _).mono ?_
                        rintro e V1 ⟨rfl, hb⟩
                        have HA1 : Hid (AM w B W2 Lb W2 (.slice ta ts.length tc) (.slice (some ⟨gb, 0, none⟩) bs.length bc) (.slice na ns.length nc) ts bs ns V1 uT u (.slice none 0 0) gT gs [] ts.length n 0) := HA.out.later hb
                        refine hK.out _ _ (HA1.out.mdB.s HX.out) (fun hH => ?_)
                        clear hK K hb HA
                        refine wpAnyH_take (i := 13) (oi := ⟨_, _, _, _, _, _⟩) (v := .agg #[.int .i64 (-1 - (n : Int)), .int .i64 (-7), .int .i64 (n : Int), .string oB]) rfl (by kernel_rfl) (by kernel_rfl) (by kernel_rfl) (fun _ _ _ h => h) (Or.inl ⟨by rfl, fun w' h => by clear h; go_simp⟩) hH ?_
                        simp only [Act.put, List.setIfInBounds_toArray, List.set_cons_zero, List.set_cons_succ]
                        refine wpAnyH_ready (rs := [14]) (by kernel_rfl) (by simp) ?_
                        refine (AllReadyH.cons (o := ⟨_, _, _, _, _, _⟩) rfl (fun K hK => ?_) AllReadyH.nil)
                        go_simp
                        have HA2 : Hid (AM w B W2 Lb W2 (.slice ta ts.length tc) (.slice (some ⟨gb, 0, none⟩) bs.length bc) (.slice na ns.length nc) ts bs ns (V1.alloc (.cells #[.int .i64 (-1 - (n : Int)), .int .i64 (-7), .int .i64 (n : Int), .string oB] 43)) uT u (.slice none 0 0) gT gs [] ts.length n 0) := HA1.out.later (below1 _ _)
                        have HB2 : Hid (Blk (V1.alloc (.cells #[.int .i64 (-1 - (n : Int)), .int .i64 (-7), .int .i64 (n : Int), .string oB] 43)) V1.heap.size #[.int .i64 (-1 - (n : Int)), .int .i64 (-7), .int .i64 (n : Int), .string oB] 43) := Blk.new _ _ _
                        clear hH
                        refine hK.out _ _ (HA2.out.mdB.s HX.out) (fun hH => ?_)
                        clear hK K HA1
                        revert hH HA2 HB2
                        generalize V1.alloc (.cells #[.int .i64 (-1 - (n : Int)), .int .i64 (-7), .int .i64 (n : Int), .string oB] 43) = V2
                        generalize V1.heap.size = G1
                        intro HA2 HB2 hH
                        refine wpAnyH_ready (rs := [15]) (by kernel_rfl) (by simp) ?_
                        refine (AllReadyH.cons (o := ⟨_, _, _, _, _, _⟩) rfl (fun K hK => ?_) AllReadyH.nil)
                        refine in9B rfl _ _ rfl B xv xm _ (by rfl) (HA2.out.b'.r n _ (Nat.le_refl _) HX.out) G1 #[.int .i64 (-1 - (n : Int)), .int .i64 (-7), .int .i64 (n : Int), .string oB] (by rfl) (by rfl) HB2.out (by intro q hq; simp at hq; rcases hq with rfl | rfl | rfl | rfl <;> rfl) (by omega) (Nat.le_trans HA2.out.w HA2.out.z) ?_
                        intro G V3 hp
                        obtain ⟨ga, gc, rfl⟩ := own_form9 hp.1
                        have HP3 : Hid (Ap B 43 4 V2 V3 xv xm (.slice ga (xm + 1) gc) ((List.replicate xm (oD n)).flatMap Bd.cs ++ Bd.cs (oD n))) := hp
                        have HM3 : Hid (Md B W2 Lb W2 #[(.slice ta ts.length tc), (.slice (some ⟨gb, 0, none⟩) bs.length bc), (.slice na ns.length nc)] #[uT, u, (.slice none 0 0)] 28 (.slice (some ⟨gb, 0, none⟩) bs.length bc) u bs gs n V3) := HA2.out.mdB.ap hp (HA2.out.b'.r n _ (Nat.le_refl _) HX.out) (by decide) (by decide)
                        clear hp hH HB2
                        refine hK.out _ _ (HM3.out.s HX.out) (fun hH => ?_)
                        clear hK K
                        simp only [Act.put, List.setIfInBounds_toArray, List.set_cons_zero, List.set_cons_succ]
                        refine wpAnyH_ready (rs := [16]) (by kernel_rfl) (by simp) ?_
                        refine (AllReadyH.cons (o := ⟨_, _, _, _, _, _⟩) rfl (fun K hK => ?_) AllReadyH.nil)
                        go_simp
                        have HP4 : Hid (Ap B 43 4 V2 (V3.alloc (.cells #[(.slice ga (xm + 1) gc)] 28)) xv xm (.slice ga (xm + 1) gc) ((List.replicate xm (oD n)).flatMap Bd.cs ++ Bd.cs (oD n))) := HP3.out.later (below1 _ _)
                        have HM4 : Hid (Md B W2 Lb W2 #[(.slice ta ts.length tc), (.slice (some ⟨gb, 0, none⟩) bs.length bc), (.slice na ns.length nc)] #[uT, u, (.slice none 0 0)] 28 (.slice (some ⟨gb, 0, none⟩) bs.length bc) u bs gs n (V3.alloc (.cells #[(.slice ga (xm + 1) gc)] 28))) := HM3.out.later (below1 _ _)
                        have HB4 : Hid (Blk (V3.alloc (.cells #[(.slice ga (xm + 1) gc)] 28)) V3.heap.size #[(.slice ga (xm + 1) gc)] 28) := Blk.new _ _ _
                        clear hH HP3 HM3
                        refine hK.out _ _ (HM4.out.s HX.out) (fun hH => ?_)
                        clear hK K
                        revert hH HP4 HM4 HB4
                        generalize V3.alloc (.cells #[(.slice ga (xm + 1) gc)] 28) = V4
                        generalize V3.heap.size = G3
                        intro HP4 HM4 HB4 hH
                        refine wpAnyH_ready (rs := [17]) (by kernel_rfl) (by simp) ?_
                        refine (AllReadyH.cons (o := ⟨_, _, _, _, _, _⟩) rfl (fun K hK => ?_) AllReadyH.nil)
                        refine out9B rfl _ _ rfl W2 u n _ (by rfl) HM4.out.u' G3 #[(.slice ga (xm + 1) gc)] (by rfl) (by rfl) HB4.out (by intro q hq; simp at hq; subst hq; exact one_G HP4.out.1) (by omega) HM4.out.z ?_
                        intro u2 V5 hp
                        obtain ⟨ua, uc, rfl⟩ := own_form9 hp.1
                        have HP5 : Hid (Ap W2 28 1 V4 V5 u n (.slice ua (n + 1) uc) (gs.map (·.1) ++ [(.slice ga (xm + 1) gc)])) := hp
                        have HM5 : Hid (Md B W2 Lb W2 #[(.slice ta ts.length tc), (.slice (some ⟨gb, 0, none⟩) bs.length bc), (.slice na ns.length nc)] #[uT, u, (.slice none 0 0)] 28 (.slice (some ⟨gb, 0, none⟩) bs.length bc) (.slice ua (n + 1) uc) bs (gs ++ [((.slice ga (xm + 1) gc), xm + 1)]) (n + 1) V5) := HM4.out.ap2 hp (by decide)
                        clear hp hH HB4
                        refine hK.out _ _ (HM5.out.s HX.out) (fun hH => ?_)
                        clear hK K
                        simp only [Act.put, List.setIfInBounds_toArray, List.set_cons_zero, List.set_cons_succ]
                        refine wpAnyH_take (i := 18) (oi := ⟨_, _, _, _, _, _⟩) (v := .pointer (some ⟨W2, 1, none⟩)) rfl (by kernel_rfl) (by kernel_rfl) (by kernel_rfl) (fun _ _ _ h => h) (Or.inl ⟨by rfl, fun w' h => by clear h; go_simp⟩) hH ?_
                        simp only [Act.put, List.setIfInBounds_toArray, List.set_cons_zero, List.set_cons_succ]
                        have HA9 : Hid (AM w B W2 Lb W2 (.slice ta ts.length tc) (.slice (some ⟨gb, 0, none⟩) bs.length bc) (.slice na ns.length nc) ts bs ns (V5.setCell ⟨W2, 1, none⟩ (.slice ua (n + 1) uc)) uT (.slice ua (n + 1) uc) (.slice none 0 0) gT (gs ++ [((.slice ga (xm + 1) gc), xm + 1)]) [] ts.length (n + 1) 0) := HA2.out.stepB HX.out HP4.out HP5.out
                        obtain ⟨m0, m1, m2⟩ := three9 HM5.out.m
                        have mf := frz9 HM5.out.m 1
                        refine wpAnyH_ready (rs := [19]) (by kernel_rfl) (by simp) ?_
                        refine (AllReadyH.cons (o := ⟨_, _, _, _, _, _⟩) rfl (fun K hK => ?_) AllReadyH.nil)
                        go_simp
                        refine hK.out _ _ (HA9.out.mdB.s HX.out) (fun hH => ?_)
                        clear hK K hH m0 m1 m2 mf HM4 HM5 HP4 HP5 HA2
                        refine wpAnyH_done (by kernel_rfl) ?_ _
                        go_wp2
                        go_roundg G9
                        case measure => omega
                        case rel => exact ⟨n + 1, by omega, by go_num, _, _, HA9.out⟩
                      · go_simp
                        refine (HOW.out n _).mono ?_
                        rintro e V1 ⟨rfl, hb⟩
                        have HA1 : Hid (AM w B W2 Lb W2 (.slice ta ts.length tc) (.slice (some ⟨gb, 0, none⟩) bs.length bc) (.slice na ns.length nc) ts bs ns V1 uT u (.slice none 0 0) gT gs [] ts.length n 0) := HA.out.later hb
                        refine hK.out _ _ (HA1.out.mdB.s HX.out) (fun hH => ?_)
                        clear hK K hb HA
                        refine wpAnyH_take (i := 13) (oi := ⟨_, _, _, _, _, _⟩) (v := .agg #[.int .i64 (-1 - (n : Int)), .int .i64 (-7), .int .i64 (n : Int), .string oB]) rfl (by kernel_rfl) (by kernel_rfl) (by kernel_rfl) (fun _ _ _ h => h) (Or.inl ⟨by rfl, fun w' h => by clear h; go_simp⟩) hH ?_
                        simp only [Act.put, List.setIfInBounds_toArray, List.set_cons_zero, List.set_cons_succ]
                        refine wpAnyH_ready (rs := [1, 14]) (by kernel_rfl) (by simp) ?_
                        refine (AllReadyH.cons (o := ⟨_, _, _, _, _, _⟩) rfl (fun K hK => ?_) (AllReadyH.cons (o := ⟨_, _, _, _, _, _⟩) rfl (fun K hK => ?_) AllReadyH.nil))
                        · obtain ⟨m0, m1, m2⟩ := three9 (HA1.out).m
                          go_simp
                          refine hK.out _ _ hH (fun hH => ?_)
                          clear hK K m0 m1 m2
                          refine wpAnyH_ready (rs := [14]) (by kernel_rfl) (by simp) ?_
                          refine (AllReadyH.cons (o := ⟨_, _, _, _, _, _⟩) rfl (fun K hK => ?_) AllReadyH.nil)
                          go_simp
                          have HA2 : Hid (AM w B W2 Lb W2 (.slice ta ts.length tc) (.slice (some ⟨gb, 0, none⟩) bs.length bc) (.slice na ns.length nc) ts bs ns (V1.alloc (.cells #[.int .i64 (-1 - (n : Int)), .int .i64 (-7), .int .i64 (n : Int), .string oB] 43)) uT u (.slice none 0 0) gT gs [] ts.length n 0) := HA1.out.later (below1 _ _)
                          have HB2 : Hid (Blk (V1.alloc (.cells #[.int .i64 (-1 - (n : Int)), .int .i64 (-7), .int .i64 (n : Int), .string oB] 43)) V1.heap.size #[.int .i64 (-1 - (n : Int)), .int .i64 (-7), .int .i64 (n : Int), .string oB] 43) := Blk.new _ _ _
                          clear hH
                          refine hK.out _ _ (HA2.out.mdB.s HX.out) (fun hH => ?_)
                          clear hK K HA1
                          revert hH HA2 HB2
                          generalize V1.alloc (.cells #[.int .i64 (-1 - (n : Int)), .int .i64 (-7), .int .i64 (n : Int), .string oB] 43) = V2
                          generalize V1.heap.size = G1
                          intro HA2 HB2 hH
                          refine wpAnyH_ready (rs := [15]) (by kernel_rfl) (by simp) ?_
                          refine (AllReadyH.cons (o := ⟨_, _, _, _, _, _⟩) rfl (fun K hK => ?_) AllReadyH.nil)
                          refine in9B rfl _ _ rfl B xv xm _ (by rfl) (HA2.out.b'.r n _ (Nat.le_refl _) HX.out) G1 #[.int .i64 (-1 - (n : Int)), .int .i64 (-7), .int .i64 (n : Int), .string oB] (by rfl) (by rfl) HB2.out (by intro q hq; simp at hq; rcases hq with rfl | rfl | rfl | rfl <;> rfl) (by omega) (Nat.le_trans HA2.out.w HA2.out.z) ?_
                          intro G V3 hp
                          obtain ⟨ga, gc, rfl⟩ := own_form9 hp.1
                          have HP3 : Hid (Ap B 43 4 V2 V3 xv xm (.slice ga (xm + 1) gc) ((List.replicate xm (oD n)).flatMap Bd.cs ++ Bd.cs (oD n))) := hp
                          have HM3 : Hid (Md B W2 Lb W2 #[(.slice ta ts.length tc), (.slice (some ⟨gb, 0, none⟩) bs.length bc), (.slice na ns.length nc)] #[uT, u, (.slice none 0 0)] 28 (.slice (some ⟨gb, 0, none⟩) bs.length bc) u bs gs n V3) := HA2.out.mdB.ap hp (HA2.out.b'.r n _ (Nat.le_refl _) HX.out) (by decide) (by decide)
                          clear hp hH HB2
                          refine hK.out _ _ (HM3.out.s HX.out) (fun hH => ?_)
                          clear hK K
                          simp only [Act.put, List.setIfInBounds_toArray, List.set_cons_zero, List.set_cons_succ]
                          refine wpAnyH_ready (rs := [16]) (by kernel_rfl) (by simp) ?_
                          refine (AllReadyH.cons (o := ⟨_, _, _, _, _, _⟩) rfl (fun K hK => ?_) AllReadyH.nil)
                          go_simp
                          have HP4 : Hid (Ap B 43 4 V2 (V3.alloc (.cells #[(.slice ga (xm + 1) gc)] 28)) xv xm (.slice ga (xm + 1) gc) ((List.replicate xm (oD n)).flatMap Bd.cs ++ Bd.cs (oD n))) := HP3.out.later (below1 _ _)
                          have HM4 : Hid (Md B W2 Lb W2 #[(.slice ta ts.length tc), (.slice (some ⟨gb, 0, none⟩) bs.length bc), (.slice na ns.length nc)] #[uT, u, (.slice none 0 0)] 28 (.slice (some ⟨gb, 0, none⟩) bs.length bc) u bs gs n (V3.alloc (.cells #[(.slice ga (xm + 1) gc)] 28))) := HM3.out.later (below1 _ _)
                          have HB4 : Hid (Blk (V3.alloc (.cells #[(.slice ga (xm + 1) gc)] 28)) V3.heap.size #[(.slice ga (xm + 1) gc)] 28) := Blk.new _ _ _
                          clear hH HP3 HM3
                          refine hK.out _ _ (HM4.out.s HX.out) (fun hH => ?_)
                          clear hK K
                          revert hH HP4 HM4 HB4
                          generalize V3.alloc (.cells #[(.slice ga (xm + 1) gc)] 28) = V4
                          generalize V3.heap.size = G3
                          intro HP4 HM4 HB4 hH
                          refine wpAnyH_ready (rs := [17]) (by kernel_rfl) (by simp) ?_
                          refine (AllReadyH.cons (o := ⟨_, _, _, _, _, _⟩) rfl (fun K hK => ?_) AllReadyH.nil)
                          refine out9B rfl _ _ rfl W2 u n _ (by rfl) HM4.out.u' G3 #[(.slice ga (xm + 1) gc)] (by rfl) (by rfl) HB4.out (by intro q hq; simp at hq; subst hq; exact one_G HP4.out.1) (by omega) HM4.out.z ?_
                          intro u2 V5 hp
                          obtain ⟨ua, uc, rfl⟩ := own_form9 hp.1
                          have HP5 : Hid (Ap W2 28 1 V4 V5 u n (.slice ua (n + 1) uc) (gs.map (·.1) ++ [(.slice ga (xm + 1) gc)])) := hp
                          have HM5 : Hid (Md B W2 Lb W2 #[(.slice ta ts.length tc), (.slice (some ⟨gb, 0, none⟩) bs.length bc), (.slice na ns.length nc)] #[uT, u, (.slice none 0 0)] 28 (.slice (some ⟨gb, 0, none⟩) bs.length bc) (.slice ua (n + 1) uc) bs (gs ++ [((.slice ga (xm + 1) gc), xm + 1)]) (n + 1) V5) := HM4.out.ap2 hp (by decide)
                          clear hp hH HB4
                          refine hK.out _ _ (HM5.out.s HX.out) (fun hH => ?_)
                          clear hK K
                          simp only [Act.put, List.setIfInBounds_toArray, List.set_cons_zero, List.set_cons_succ]
                          refine wpAnyH_take (i := 18) (oi := ⟨_, _, _, _, _, _⟩) (v := .pointer (some ⟨W2, 1, none⟩)) rfl (by kernel_rfl) (by kernel_rfl) (by kernel_rfl) (fun _ _ _ h => h) (Or.inl ⟨by rfl, fun w' h => by clear h; go_simp⟩) hH ?_
                          simp only [Act.put, List.setIfInBounds_toArray, List.set_cons_zero, List.set_cons_succ]
                          have HA9 : Hid (AM w B W2 Lb W2 (.slice ta ts.length tc) (.slice (some ⟨gb, 0, none⟩) bs.length bc) (.slice na ns.length nc) ts bs ns (V5.setCell ⟨W2, 1, none⟩ (.slice ua (n + 1) uc)) uT (.slice ua (n + 1) uc) (.slice none 0 0) gT (gs ++ [((.slice ga (xm + 1) gc), xm + 1)]) [] ts.length (n + 1) 0) := HA2.out.stepB HX.out HP4.out HP5.out
                          obtain ⟨m0, m1, m2⟩ := three9 HM5.out.m
                          have mf := frz9 HM5.out.m 1
                          refine wpAnyH_ready (rs := [19]) (by kernel_rfl) (by simp) ?_
                          refine (AllReadyH.cons (o := ⟨_, _, _, _, _, _⟩) rfl (fun K hK => ?_) AllReadyH.nil)
                          go_simp
                          refine hK.out _ _ (HA9.out.mdB.s HX.out) (fun hH => ?_)
                          clear hK K hH m0 m1 m2 mf HM4 HM5 HP4 HP5 HA2
                          refine wpAnyH_done (by kernel_rfl) ?_ _
                          go_wp2
                          go_roundg G9
                          case measure => omega
                          case rel => exact ⟨n + 1, by omega, by go_num, _, _, HA9.out⟩
                        · go_simp
                          have HA2 : Hid (AM w B W2 Lb W2 (.slice ta ts.length tc) (.slice (some ⟨gb, 0, none⟩) bs.length bc) (.slice na ns.length nc) ts bs ns (V1.alloc (.cells #[.int .i64 (-1 - (n : Int)), .int .i64 (-7), .int .i64 (n : Int), .string oB] 43)) uT u (.slice none 0 0) gT gs [] ts.length n 0) := HA1.out.later (below1 _ _)
                          have HB2 : Hid (Blk (V1.alloc (.cells #[.int .i64 (-1 - (n : Int)), .int .i64 (-7), .int .i64 (n : Int), .string oB] 43)) V1.heap.size #[.int .i64 (-1 - (n : Int)), .int .i64 (-7), .int .i64 (n : Int), .string oB] 43) := Blk.new _ _ _
                          clear hH
                          refine hK.out _ _ (HA2.out.mdB.s HX.out) (fun hH => ?_)
                          clear hK K HA1
                          revert hH HA2 HB2
                          generalize V1.alloc (.cells #[.int .i64 (-1 - (n : Int)), .int .i64 (-7), .int .i64 (n : Int), .string oB] 43) = V2
                          generalize V1.heap.size = G1
                          intro HA2 HB2 hH
                          refine wpAnyH_ready (rs := [1, 15]) (by kernel_rfl) (by simp) ?_
                          refine (AllReadyH.cons (o := ⟨_, _, _, _, _, _⟩) rfl (fun K hK => ?_) (AllReadyH.cons (o := ⟨_, _, _, _, _, _⟩) rfl (fun K hK => ?_) AllReadyH.nil))
                          · obtain ⟨m0, m1, m2⟩ := three9 (HA2.out).m
                            go_simp
                            refine hK.out _ _ hH (fun hH => ?_)
                            clear hK K m0 m1 m2
                            refine wpAnyH_ready (rs := [15]) (by kernel_rfl) (by simp) ?_
                            refine (AllReadyH.cons (o := ⟨_, _, _, _, _, _⟩) rfl (fun K hK => ?_) AllReadyH.nil)
                            refine in9B rfl _ _ rfl B xv xm _ (by rfl) (HA2.out.b'.r n _ (Nat.le_refl _) HX.out) G1 #[.int .i64 (-1 - (n : Int)), .int .i64 (-7), .int .i64 (n : Int), .string oB] (by rfl) (by rfl) HB2.out (by intro q hq; simp at hq; rcases hq with rfl | rfl | rfl | rfl <;> rfl) (by omega) (Nat.le_trans HA2.out.w HA2.out.z) ?_
                            intro G V3 hp
                            obtain ⟨ga, gc, rfl⟩ := own_form9 hp.1
                            have HP3 : Hid (Ap B 43 4 V2 V3 xv xm (.slice ga (xm + 1) gc) ((List.replicate xm (oD n)).flatMap Bd.cs ++ Bd.cs (oD n))) := hp
                            have HM3 : Hid (Md B W2 Lb W2 #[(.slice ta ts.length tc), (.slice (some ⟨gb, 0, none⟩) bs.length bc), (.slice na ns.length nc)] #[uT, u, (.slice none 0 0)] 28 (.slice (some ⟨gb, 0, none⟩) bs.length bc) u bs gs n V3) := HA2.out.mdB.ap hp (HA2.out.b'.r n _ (Nat.le_refl _) HX.out) (by decide) (by decide)
                            clear hp hH HB2
                            refine hK.out _ _ (HM3.out.s HX.out) (fun hH => ?_)
                            clear hK K
                            simp only [Act.put, List.setIfInBounds_toArray, List.set_cons_zero, List.set_cons_succ]
                            refine wpAnyH_ready (rs := [16]) (by kernel_rfl) (by simp) ?_
                            refine (AllReadyH.cons (o := ⟨_, _, _, _, _, _⟩) rfl (fun K hK => ?_) AllReadyH.nil)
                            go_simp
                            have HP4 : Hid (Ap B 43 4 V2 (V3.alloc (.cells #[(.slice ga (xm + 1) gc)] 28)) xv xm (.slice ga (xm + 1) gc) ((List.replicate xm (oD n)).flatMap Bd.cs ++ Bd.cs (oD n))) := HP3.out.later (below1 _ _)
                            have HM4 : Hid (Md B W2 Lb W2 #[(.slice ta ts.length tc), (.slice (some ⟨gb, 0, none⟩) bs.length bc), (.slice na ns.length nc)] #[uT, u, (.slice none 0 0)] 28 (.slice (some ⟨gb, 0, none⟩) bs.length bc) u bs gs n (V3.alloc (.cells #[(.slice ga (xm + 1) gc)] 28))) := HM3.out.later (below1 _ _)
                            have HB4 : Hid (Blk (V3.alloc (.cells #[(.slice ga (xm + 1) gc)] 28)) V3.heap.size #[(.slice ga (xm + 1) gc)] 28) := Blk.new _ _ _
                            clear hH HP3 HM3
                            refine hK.out _ _ (HM4.out.s HX.out) (fun hH => ?_)
                            clear hK K
                            revert hH HP4 HM4 HB4
                            generalize V3.alloc (.cells #[(.slice ga (xm + 1) gc)] 28) = V4
                            generalize V3.heap.size = G3
                            intro HP4 HM4 HB4 hH
                            refine wpAnyH_ready (rs := [17]) (by kernel_rfl) (by simp) ?_
                            refine (AllReadyH.cons (o := ⟨_, _, _, _, _, _⟩) rfl (fun K hK => ?_) AllReadyH.nil)
                            refine out9B rfl _ _ rfl W2 u n _ (by rfl) HM4.out.u' G3 #[(.slice ga (xm + 1) gc)] (by rfl) (by rfl) HB4.out (by intro q hq; simp at hq; subst hq; exact one_G HP4.out.1) (by omega) HM4.out.z ?_
                            intro u2 V5 hp
                            obtain ⟨ua, uc, rfl⟩ := own_form9 hp.1
                            have HP5 : Hid (Ap W2 28 1 V4 V5 u n (.slice ua (n + 1) uc) (gs.map (·.1) ++ [(.slice ga (xm + 1) gc)])) := hp
                            have HM5 : Hid (Md B W2 Lb W2 #[(.slice ta ts.length tc), (.slice (some ⟨gb, 0, none⟩) bs.length bc), (.slice na ns.length nc)] #[uT, u, (.slice none 0 0)] 28 (.slice (some ⟨gb, 0, none⟩) bs.length bc) (.slice ua (n + 1) uc) bs (gs ++ [((.slice ga (xm + 1) gc), xm + 1)]) (n + 1) V5) := HM4.out.ap2 hp (by decide)
                            clear hp hH HB4
                            refine hK.out _ _ (HM5.out.s HX.out) (fun hH => ?_)
                            clear hK K
                            simp only [Act.put, List.setIfInBounds_toArray, List.set_cons_zero, List.set_cons_succ]
                            refine wpAnyH_take (i := 18) (oi := ⟨_, _, _, _, _, _⟩) (v := .pointer (some ⟨W2, 1, none⟩)) rfl (by kernel_rfl) (by kernel_rfl) (by kernel_rfl) (fun _ _ _ h => h) (Or.inl ⟨by rfl, fun w' h => by clear h; go_simp⟩) hH ?_
                            simp only [Act.put, List.setIfInBounds_toArray, List.set_cons_zero, List.set_cons_succ]
                            have HA9 : Hid (AM w B W2 Lb W2 (.slice ta ts.length tc) (.slice (some ⟨gb, 0, none⟩) bs.length bc) (.slice na ns.length nc) ts bs ns (V5.setCell ⟨W2, 1, none⟩ (.slice ua (n + 1) uc)) uT (.slice ua (n + 1) uc) (.slice none 0 0) gT (gs ++ [((.slice ga (xm + 1) gc), xm + 1)]) [] ts.length (n + 1) 0) := HA2.out.stepB HX.out HP4.out HP5.out
                            obtain ⟨m0, m1, m2⟩ := three9 HM5.out.m
                            have mf := frz9 HM5.out.m 1
                            refine wpAnyH_ready (rs := [19]) (by kernel_rfl) (by simp) ?_
                            refine (AllReadyH.cons (o := ⟨_, _, _, _, _, _⟩) rfl (fun K hK => ?_) AllReadyH.nil)
                            go_simp
                            refine hK.out _ _ (HA9.out.mdB.s HX.out) (fun hH => ?_)
                            clear hK K hH m0 m1 m2 mf HM4 HM5 HP4 HP5 HA2
                            refine wpAnyH_done (by kernel_rfl) ?_ _
                            go_wp2
                            go_roundg G9
                            case measure => omega
                            case rel => exact ⟨n + 1, by omega, by go_num, _, _, HA9.out⟩
                          · refine in9B rfl _ _ rfl B xv xm _ (by rfl) (HA2.out.b'.r n _ (Nat.le_refl _) HX.out) G1 #[.int .i64 (-1 - (n : Int)), .int .i64 (-7), .int .i64 (n : Int), .string oB] (by rfl) (by rfl) HB2.out (by intro q hq; simp at hq; rcases hq with rfl | rfl | rfl | rfl <;> rfl) (by omega) (Nat.le_trans HA2.out.w HA2.out.z) ?_
                            intro G V3 hp
                            obtain ⟨ga, gc, rfl⟩ := own_form9 hp.1
                            have HP3 : Hid (Ap B 43 4 V2 V3 xv xm (.slice ga (xm + 1) gc) ((List.replicate xm (oD n)).flatMap Bd.cs ++ Bd.cs (oD n))) := hp
                            have HM3 : Hid (Md B W2 Lb W2 #[(.slice ta ts.length tc), (.slice (some ⟨gb, 0, none⟩) bs.length bc), (.slice na ns.length nc)] #[uT, u, (.slice none 0 0)] 28 (.slice (some ⟨gb, 0, none⟩) bs.length bc) u bs gs n V3) := HA2.out.mdB.ap hp (HA2.out.b'.r n _ (Nat.le_refl _) HX.out) (by decide) (by decide)
                            clear hp hH HB2
                            refine hK.out _ _ (HM3.out.s HX.out) (fun hH => ?_)
                            clear hK K
                            simp only [Act.put, List.setIfInBounds_toArray, List.set_cons_zero, List.set_cons_succ]
                            refine wpAnyH_ready (rs := [1, 16]) (by kernel_rfl) (by simp) ?_
                            refine (AllReadyH.cons (o := ⟨_, _, _, _, _, _⟩) rfl (fun K hK => ?_) (AllReadyH.cons (o := ⟨_, _, _, _, _, _⟩) rfl (fun K hK => ?_) AllReadyH.nil))
                            · obtain ⟨m0, m1, m2⟩ := three9 (HM3.out).m
                              go_simp
                              refine hK.out _ _ hH (fun hH => ?_)
                              clear hK K m0 m1 m2
                              refine wpAnyH_ready (rs := [16]) (by kernel_rfl) (by simp) ?_
                              refine (AllReadyH.cons (o := ⟨_, _, _, _, _, _⟩) rfl (fun K hK => ?_) AllReadyH.nil)
                              go_simp
                              have HP4 : Hid (Ap B 43 4 V2 (V3.alloc (.cells #[(.slice ga (xm + 1) gc)] 28)) xv xm (.slice ga (xm + 1) gc) ((List.replicate xm (oD n)).flatMap Bd.cs ++ Bd.cs (oD n))) := HP3.out.later (below1 _ _)
                              have HM4 : Hid (Md B W2 Lb W2 #[(.slice ta ts.length tc), (.slice (some ⟨gb, 0, none⟩) bs.length bc), (.slice na ns.length nc)] #[uT, u, (.slice none 0 0)] 28 (.slice (some ⟨gb, 0, none⟩) bs.length bc) u bs gs n (V3.alloc (.cells #[(.slice ga (xm + 1) gc)] 28))) := HM3.out.later (below1 _ _)
                              have HB4 : Hid (Blk (V3.alloc (.cells #[(.slice ga (xm + 1) gc)] 28)) V3.heap.size #[(.slice ga (xm + 1) gc)] 28) := Blk.new _ _ _
                              clear hH HP3 HM3
                              refine hK.out _ _ (HM4.out.s HX.out) (fun hH => ?_)
                              clear hK K
                              revert hH HP4 HM4 HB4
                              generalize V3.alloc (.cells #[(.slice ga (xm + 1) gc)] 28) = V4
                              generalize V3.heap.size = G3
                              intro HP4 HM4 HB4 hH
                              refine wpAnyH_ready (rs := [17]) (by kernel_rfl) (by simp) ?_
                              refine (AllReadyH.cons (o := ⟨_, _, _, _, _, _⟩) rfl (fun K hK => ?_) AllReadyH.nil)
                              refine out9B rfl _ _ rfl W2 u n _ (by rfl) HM4.out.u' G3 #[(.slice ga (xm + 1) gc)] (by rfl) (by rfl) HB4.out (by intro q hq; simp at hq; subst hq; exact one_G HP4.out.1) (by omega) HM4.out.z ?_
                              intro u2 V5 hp
                              obtain ⟨ua, uc, rfl⟩ := own_form9 hp.1
                              have HP5 : Hid (Ap W2 28 1 V4 V5 u n (.slice ua (n + 1) uc) (gs.map (·.1) ++ [(.slice ga (xm + 1) gc)])) := hp
                              have HM5 : Hid (Md B W2 Lb W2 #[(.slice ta ts.length tc), (.slice (some ⟨gb, 0, none⟩) bs.length bc), (.slice na ns.length nc)] #[uT, u, (.slice none 0 0)] 28 (.slice (some ⟨gb, 0, none⟩) bs.length bc) (.slice ua (n + 1) uc) bs (gs ++ [((.slice ga (xm + 1) gc), xm + 1)]) (n + 1) V5) := HM4.out.ap2 hp (by decide)
                              clear hp hH HB4
                              refine hK.out _ _ (HM5.out.s HX.out) (fun hH => ?_)
                              clear hK K
                              simp only [Act.put, List.setIfInBounds_toArray, List.set_cons_zero, List.set_cons_succ]
                              refine wpAnyH_take (i := 18) (oi := ⟨_, _, _, _, _, _⟩) (v := .pointer (some ⟨W2, 1, none⟩)) rfl (by kernel_rfl) (by kernel_rfl) (by kernel_rfl) (fun _ _ _ h => h) (Or.inl ⟨by rfl, fun w' h => by clear h; go_simp⟩) hH ?_
                              simp only [Act.put, List.setIfInBounds_toArray, List.set_cons_zero, List.set_cons_succ]
                              have HA9 : Hid (AM w B W2 Lb W2 (.slice ta ts.length tc) (.slice (some ⟨gb, 0, none⟩) bs.length bc) (.slice na ns.length nc) ts bs ns (V5.setCell ⟨W2, 1, none⟩ (.slice ua (n + 1) uc)) uT (.slice ua (n + 1) uc) (.slice none 0 0) gT (gs ++ [((.slice ga (xm + 1) gc), xm + 1)]) [] ts.length (n + 1) 0) := HA2.out.stepB HX.out HP4.out HP5.out
                              obtain ⟨m0, m1, m2⟩ := three9 HM5.out.m
                              have mf := frz9 HM5.out.m 1
                              refine wpAnyH_ready (rs := [19]) (by kernel_rfl) (by simp) ?_
                              refine (AllReadyH.cons (o := ⟨_, _, _, _, _, _⟩) rfl (fun K hK => ?_) AllReadyH.nil)
                              go_simp
                              refine hK.out _ _ (HA9.out.mdB.s HX.out) (fun hH => ?_)
                              clear hK K hH m0 m1 m2 mf HM4 HM5 HP4 HP5 HA2
                              refine wpAnyH_done (by kernel_rfl) ?_ _
                              go_wp2
                              go_roundg G9
                              case measure => omega
                              case rel => exact ⟨n + 1, by omega, by go_num, _, _, HA9.out⟩
                            · go_simp
                              have HP4 : Hid (Ap B 43 4 V2 (V3.alloc (.cells #[(.slice ga (xm + 1) gc)] 28)) xv xm (.slice ga (xm + 1) gc) ((List.replicate xm (oD n)).flatMap Bd.cs ++ Bd.cs (oD n))) := HP3.out.later (below1 _ _)
                              have HM4 : Hid (Md B W2 Lb W2 #[(.slice ta ts.length tc), (.slice (some ⟨gb, 0, none⟩) bs.length bc), (.slice na ns.length nc)] #[uT, u, (.slice none 0 0)] 28 (.slice (some ⟨gb, 0, none⟩) bs.length bc) u bs gs n (V3.alloc (.cells #[(.slice ga (xm + 1) gc)] 28))) := HM3.out.later (below1 _ _)
                              have HB4 : Hid (Blk (V3.alloc (.cells #[(.slice ga (xm + 1) gc)] 28)) V3.heap.size #[(.slice ga (xm + 1) gc)] 28) := Blk.new _ _ _
                              clear hH HP3 HM3
                              refine hK.out _ _ (HM4.out.s HX.out) (fun hH => ?_)
                              clear hK K
                              revert hH HP4 HM4 HB4
                              generalize V3.alloc (.cells #[(.slice ga (xm + 1) gc)] 28) = V4
                              generalize V3.heap.size = G3
                              intro HP4 HM4 HB4 hH
                              refine wpAnyH_ready (rs := [1]) (by kernel_rfl) (by simp) ?_
                              refine (AllReadyH.cons (o := ⟨_, _, _, _, _, _⟩) rfl (fun K hK => ?_) AllReadyH.nil)
                              obtain ⟨m0, m1, m2⟩ := three9 (HM4.out).m
                              go_simp
                              refine hK.out _ _ hH (fun hH => ?_)
                              clear hK K m0 m1 m2
                              refine wpAnyH_ready (rs := [17]) (by kernel_rfl) (by simp) ?_
                              refine (AllReadyH.cons (o := ⟨_, _, _, _, _, _⟩) rfl (fun K hK => ?_) AllReadyH.nil)
                              refine out9B rfl _ _ rfl W2 u n _ (by rfl) HM4.out.u' G3 #[(.slice ga (xm + 1) gc)] (by rfl) (by rfl) HB4.out (by intro q hq; simp at hq; subst hq; exact one_G HP4.out.1) (by omega) HM4.out.z ?_
                              intro u2 V5 hp
                              obtain ⟨ua, uc, rfl⟩ := own_form9 hp.1
                              have HP5 : Hid (Ap W2 28 1 V4 V5 u n (.slice ua (n + 1) uc) (gs.map (·.1) ++ [(.slice ga (xm + 1) gc)])) := hp
                              have HM5 : Hid (Md B W2 Lb W2 #[(.slice ta ts.length tc), (.slice (some ⟨gb, 0, none⟩) bs.length bc), (.slice na ns.length nc)] #[uT, u, (.slice none 0 0)] 28 (.slice (some ⟨gb, 0, none⟩) bs.length bc) (.slice ua (n + 1) uc) bs (gs ++ [((.slice ga (xm + 1) gc), xm + 1)]) (n + 1) V5) := HM4.out.ap2 hp (by decide)
                              clear hp hH HB4
                              refine hK.out _ _ (HM5.out.s HX.out) (fun hH => ?_)
                              clear hK K
                              simp only [Act.put, List.setIfInBounds_toArray, List.set_cons_zero, List.set_cons_succ]
                              refine wpAnyH_take (i := 18) (oi := ⟨_, _, _, _, _, _⟩) (v := .pointer (some ⟨W2, 1, none⟩)) rfl (by kernel_rfl) (by kernel_rfl) (by kernel_rfl) (fun _ _ _ h => h) (Or.inl ⟨by rfl, fun w' h => by clear h; go_simp⟩) hH ?_
                              simp only [Act.put, List.setIfInBounds_toArray, List.set_cons_zero, List.set_cons_succ]
                              have HA9 : Hid (AM w B W2 Lb W2 (.slice ta ts.length tc) (.slice (some ⟨gb, 0, none⟩) bs.length bc) (.slice na ns.length nc) ts bs ns (V5.setCell ⟨W2, 1, none⟩ (.slice ua (n + 1) uc)) uT (.slice ua (n + 1) uc) (.slice none 0 0) gT (gs ++ [((.slice ga (xm + 1) gc), xm + 1)]) [] ts.length (n + 1) 0) := HA2.out.stepB HX.out HP4.out HP5.out
                              obtain ⟨m0, m1, m2⟩ := three9 HM5.out.m
                              have mf := frz9 HM5.out.m 1
                              refine wpAnyH_ready (rs := [19]) (by kernel_rfl) (by simp) ?_
                              refine (AllReadyH.cons (o := ⟨_, _, _, _, _, _⟩) rfl (fun K hK => ?_) AllReadyH.nil)
                              go_simp
                              refine hK.out _ _ (HA9.out.mdB.s HX.out) (fun hH => ?_)
                              clear hK K hH m0 m1 m2 mf HM4 HM5 HP4 HP5 HA2
                              refine wpAnyH_done (by kernel_rfl) ?_ _
                              go_wp2
                              go_roundg G9
                              case measure => omega
                              case rel => exact ⟨n + 1, by omega, by go_num, _, _, HA9.out⟩
                    · have k1 : ¬ (n : Int) < (bs.length : Int) := by omega
                      obtain rfl : n = bs.length := by omega
                      have HM0 : Hid (AM w B W2 Lb W2 (.slice ta ts.length tc) (.slice ba bs.length bc) (.slice na ns.length nc) ts bs ns wr uT u (.slice none 0 0) gT gs [] ts.length bs.length 0) := HAM.out
                      clear HAM
                      go_wp2
                      revert HM0
                      generalize u = uB
                      generalize gs = gB
                      intro HM0
                      go_loopg [12] ns.length (fun g i wr => ∃ n : Nat, n + g = ns.length ∧ i = .int .i64 (n : Int) ∧ ∃ u gs, AM w B W2 Lb W2 (.slice ta ts.length tc) (.slice ba bs.length bc) (.slice na ns.length nc) ts bs ns wr uT uB u gT gB gs ts.length bs.length n)
                      case atStart => exact ⟨0, by omega, rfl, _, _, HM0.out⟩
                      case round =>
                        obtain ⟨n, hg, rfl, u, gs, ham⟩ := hrel
                        have HAM : Hid (AM w B W2 Lb W2 (.slice ta ts.length tc) (.slice ba bs.length bc) (.slice na ns.length nc) ts bs ns wr uT uB u gT gB gs ts.length bs.length n) := ham
                        have jn : (0 : Int) ≤ (n : Int) := by omega
                        obtain ⟨y0, y1, y2⟩ := three9 ham.l
                        have hLz := ham.l.lt
                        clear ham HM0
                        by_cases hnl : n < ns.length
                        · have k1 : (n : Int) < (ns.length : Int) := by omega
                          obtain ⟨G9, rfl⟩ : ∃ G, gk = G + 1 := ⟨gk - 1, by omega⟩
                          obtain ⟨x, hx⟩ : ∃ z, ns[n]? = some z := ⟨_, List.getElem?_eq_getElem hnl⟩
                          obtain ⟨gb, rfl, hgz, hgc⟩ := (ss_of HAM.out.n.o').get (j := n) (u := x.1) (by rw [List.getElem?_map, hx]; rfl)
                          obtain ⟨xv, xm⟩ := x
                          simp only at hgc
                          have HX : Hid (ns[n]? = some (xv, xm)) := hx
                          have hxb : xm ≤ 1100000000000 := HNB.out _ (List.mem_of_getElem? hx)
                          have hwj : IntKind.i64.wrap (-1 - (n : Int)) = -1 - (n : Int) := wrap_m (by omega)
                          have hwk : wrap64 (-1 - (n : Int)) = -1 - (n : Int) := wrap_k (by omega)
                          clear hx
                          go_upto_region 34 with fail
                          have HA : Hid (AM w B W2 Lb W2 (.slice ta ts.length tc) (.slice ba bs.length bc) (.slice (some ⟨gb, 0, none⟩) ns.length nc) ts bs ns wr.drew uT uB u gT gB gs ts.length bs.length n) := HAM.out.later (Below.refl _ _).drew
                          refine wp_region_held_drew (S := fun w' => Blk w' Lb #[(.slice ta ts.length tc), (.slice ba bs.length bc), (.slice (some ⟨gb, 0, none⟩) ns.length nc)] 36 ∧ gb < w'.heap.size ∧ w'.cell? ⟨gb, n, none⟩ = some xv) (by kernel_rfl) (HAM.out.mdN.s HX.out) (fun hH => ?_)
                          revert hH HA
                          clear HAM
                          generalize wr.drew = V0
                          intro HA hH
                          refine wpAnyH_take (i := 0) (oi := ⟨_, _, _, _, _, _⟩) (v := .pointer (some ⟨W2, 2, none⟩)) rfl (by kernel_rfl) (by kernel_rfl) (by kernel_rfl) (fun _ _ _ h => h) (Or.inl ⟨by rfl, fun w' h => by clear h; go_simp⟩) hH ?_
                          simp only [Act.put, List.setIfInBounds_toArray, List.set_cons_zero, List.set_cons_succ]
                          refine wpAnyH_take (i := 2) (oi := ⟨_, _, _, _, _, _⟩) (v := .pointer (some ⟨Lb, 0, none⟩)) rfl (by kernel_rfl) (by kernel_rfl) (by kernel_rfl) (fun _ _ _ h => h) (Or.inl ⟨by rfl, fun w' h => by clear h; go_simp⟩) hH ?_
                          simp only [Act.put, List.setIfInBounds_toArray, List.set_cons_zero, List.set_cons_succ]
                          refine wpAnyH_take (i := 3) (oi := ⟨_, _, _, _, _, _⟩) (v := .pointer (some ⟨Lb, 0, none⟩)) rfl (by kernel_rfl) (by kernel_rfl) (by kernel_rfl) (fun _ _ _ h => h) (Or.inl ⟨by rfl, fun w' h => by clear h; go_simp⟩) hH ?_
                          simp only [Act.put, List.setIfInBounds_toArray, List.set_cons_zero, List.set_cons_succ]
                          refine wpAnyH_take (i := 4) (oi := ⟨_, _, _, _, _, _⟩) (v := .pointer (some ⟨Lb, 2, none⟩)) rfl (by kernel_rfl) (by kernel_rfl) (by kernel_rfl) (fun _ _ _ h => h) (Or.inl ⟨by rfl, fun w' h => by clear h; go_simp⟩) hH ?_
                          simp only [Act.put, List.setIfInBounds_toArray, List.set_cons_zero, List.set_cons_succ]
                          refine wpAnyH_take (i := 5) (oi := ⟨_, _, _, _, _, _⟩) (v := (.slice (some ⟨gb, 0, none⟩) ns.length nc)) rfl (by kernel_rfl) (by kernel_rfl) (by kernel_rfl) (fun _ _ _ h => h) (Or.inl ⟨by rfl, fun w' h => by obtain ⟨y0, y1, y2⟩ := three9 h.1; clear h; go_simp⟩) hH ?_
                          simp only [Act.put, List.setIfInBounds_toArray, List.set_cons_zero, List.set_cons_succ]
                          refine wpAnyH_take (i := 6) (oi := ⟨_, _, _, _, _, _⟩) (v := .int .i64 (n : Int)) rfl (by kernel_rfl) (by kernel_rfl) (by kernel_rfl) (fun _ _ _ h => h) (Or.inl ⟨by rfl, fun w' h => by clear h; go_simp⟩) hH ?_
                          simp only [Act.put, List.setIfInBounds_toArray, List.set_cons_zero, List.set_cons_succ]
                          refine wpAnyH_take (i := 7) (oi := ⟨_, _, _, _, _, _⟩) (v := .pointer (some ⟨gb, n, none⟩)) rfl (by kernel_rfl) (by kernel_rfl) (by kernel_rfl) (fun _ _ _ h => h) (Or.inl ⟨by rfl, fun w' h => by clear h; go_simp⟩) hH ?_
                          simp only [Act.put, List.setIfInBounds_toArray, List.set_cons_zero, List.set_cons_succ]
                          refine wpAnyH_take (i := 8) (oi := ⟨_, _, _, _, _, _⟩) (v := xv) rfl (by kernel_rfl) (by kernel_rfl) (by kernel_rfl) (fun _ _ _ h => h) (Or.inl ⟨by rfl, fun w' h => by have y0 := h.2.2; have z := h.2.1; clear h; go_simp⟩) hH ?_
                          simp only [Act.put, List.setIfInBounds_toArray, List.set_cons_zero, List.set_cons_succ]
                          refine wpAnyH_take (i := 9) (oi := ⟨_, _, _, _, _, _⟩) (v := .int .i64 (n : Int)) rfl (by kernel_rfl) (by kernel_rfl) (by kernel_rfl) (fun _ _ _ h => h) (Or.inl ⟨by rfl, fun w' h => by clear h; go_simp⟩) hH ?_
                          simp only [Act.put, List.setIfInBounds_toArray, List.set_cons_zero, List.set_cons_succ]
                          refine wpAnyH_take (i := 10) (oi := ⟨_, _, _, _, _, _⟩) (v := .int .i64 (-1 - (n : Int))) rfl (by kernel_rfl) (by kernel_rfl) (by kernel_rfl) (fun _ _ _ h => h) (Or.inl ⟨by rfl, fun w' h => by clear h; go_simp⟩) hH ?_
                          simp only [Act.put, List.setIfInBounds_toArray, List.set_cons_zero, List.set_cons_succ]
                          refine wpAnyH_ready (rs := [1, 11]) (by kernel_rfl) (by simp) ?_
                          refine (AllReadyH.cons (o := ⟨_, _, _, _, _, _⟩) rfl (fun K hK => ?_) (AllReadyH.cons (o := ⟨_, _, _, _, _, _⟩) rfl (fun K hK => ?_) AllReadyH.nil))
                          · obtain ⟨m0, m1, m2⟩ := three9 (HA.out).m
                            go_simp
                            refine hK.out _ _ hH (fun hH => ?_)
                            clear hK K m0 m1 m2
                            refine wpAnyH_ready (rs := [11]) (by kernel_rfl) (by simp) ?_
                            refine (AllReadyH.cons (o := ⟨_, _, _, _, _, _⟩) rfl (fun K hK => ?_) AllReadyH.nil)
                            go_simp
                            have HA2 : Hid (AM w B W2 Lb W2 (.slice ta ts.length tc) (.slice ba bs.length bc) (.slice (some ⟨gb, 0, none⟩) ns.length nc) ts bs ns (V0.alloc (.cells #[.int .i64 (-1 - (n : Int))] 3)) uT uB u gT gB gs ts.length bs.length n) := HA.out.later (below1 _ _)
                            have HB2 : Hid (Blk (V0.alloc (.cells #[.int .i64 (-1 - (n : Int))] 3)) V0.heap.size #[.int .i64 (-1 - (n : Int))] 3) := Blk.new _ _ _
                            clear hH
                            refine hK.out _ _ (HA2.out.mdN.s HX.out) (fun hH => ?_)
                            clear hK K HA
                            revert hH HA2 HB2
                            generalize V0.alloc (.cells #[.int .i64 (-1 - (n : Int))] 3) = V2
                            generalize V0.heap.size = G1
                            intro HA2 HB2 hH
                            refine wpAnyH_ready (rs := [12]) (by kernel_rfl) (by simp) ?_
                            refine (AllReadyH.cons (o := ⟨_, _, _, _, _, _⟩) rfl (fun K hK => ?_) AllReadyH.nil)
                            refine in9N rfl _ _ rfl B xv xm _ (by rfl) (HA2.out.n.r n _ (Nat.le_refl _) HX.out) G1 #[.int .i64 (-1 - (n : Int))] (by rfl) (by rfl) HB2.out (by intro q hq; simp at hq; subst hq; rfl) (by omega) (Nat.le_trans HA2.out.w HA2.out.z) ?_
                            intro G V3 hp
                            obtain ⟨ga, gc, rfl⟩ := own_form9 hp.1
                            have HP3 : Hid (Ap B 3 1 V2 V3 xv xm (.slice ga (xm + 1) gc) ((List.replicate xm (oI n)).flatMap encI ++ encI (oI n))) := hp
                            have HM3 : Hid (Md B W2 Lb W2 #[(.slice ta ts.length tc), (.slice ba bs.length bc), (.slice (some ⟨gb, 0, none⟩) ns.length nc)] #[uT, uB, u] 48 (.slice (some ⟨gb, 0, none⟩) ns.length nc) u ns gs n V3) := HA2.out.mdN.ap hp (HA2.out.n.r n _ (Nat.le_refl _) HX.out) (by decide) (by decide)
                            clear hp hH HB2
                            refine hK.out _ _ (HM3.out.s HX.out) (fun hH => ?_)
                            clear hK K
                            simp only [Act.put, List.setIfInBounds_toArray, List.set_cons_zero, List.set_cons_succ]
                            refine wpAnyH_ready (rs := [13]) (by kernel_rfl) (by simp) ?_
                            refine (AllReadyH.cons (o := ⟨_, _, _, _, _, _⟩) rfl (fun K hK => ?_) AllReadyH.nil)
                            go_simp
                            have HP4 : Hid (Ap B 3 1 V2 (V3.alloc (.cells #[(.slice ga (xm + 1) gc)] 48)) xv xm (.slice ga (xm + 1) gc) ((List.replicate xm (oI n)).flatMap encI ++ encI (oI n))) := HP3.out.later (below1 _ _)
                            have HM4 : Hid (Md B W2 Lb W2 #[(.slice ta ts.length tc), (.slice ba bs.length bc), (.slice (some ⟨gb, 0, none⟩) ns.length nc)] #[uT, uB, u] 48 (.slice (some ⟨gb, 0, none⟩) ns.length nc) u ns gs n (V3.alloc (.cells #[(.slice ga (xm + 1) gc)] 48))) := HM3.out.later (below1 _ _)
                            have HB4 : Hid (Blk (V3.alloc (.cells #[(.slice ga (xm + 1) gc)] 48)) V3.heap.size #[(.slice ga (xm + 1) gc)] 48) := Blk.new _ _ _
                            clear hH HP3 HM3
                            refine hK.out _ _ (HM4.out.s HX.out) (fun hH => ?_)
                            clear hK K
                            revert hH HP4 HM4 HB4
                            generalize V3.alloc (.cells #[(.slice ga (xm + 1) gc)] 48) = V4
                            generalize V3.heap.size = G3
                            intro HP4 HM4 HB4 hH
                            refine wpAnyH_ready (rs := [14]) (by kernel_rfl) (by simp) ?_
                            refine (AllReadyH.cons (o := ⟨_, _, _, _, _, _⟩) rfl (fun K hK => ?_) AllReadyH.nil)
                            refine out9N rfl _ _ rfl W2 u n _ (by rfl) HM4.out.u' G3 #[(.slice ga (xm + 1) gc)] (by rfl) (by rfl) HB4.out (by intro q hq; simp at hq; subst hq; exact one_G HP4.out.1) (by omega) HM4.out.z ?_
                            intro u2 V5 hp
                            obtain ⟨ua, uc, rfl⟩ := own_form9 hp.1
                            have HP5 : Hid (Ap W2 48 1 V4 V5 u n (.slice ua (n + 1) uc) (gs.map (·.1) ++ [(.slice ga (xm + 1) gc)])) := hp
                            have HM5 : Hid (Md B W2 Lb W2 #[(.slice ta ts.length tc), (.slice ba bs.length bc), (.slice (some ⟨gb, 0, none⟩) ns.length nc)] #[uT, uB, u] 48 (.slice (some ⟨gb, 0, none⟩) ns.length nc) (.slice ua (n + 1) uc) ns (gs ++ [((.slice ga (xm + 1) gc), xm + 1)]) (n + 1) V5) := HM4.out.ap2 hp (by decide)
                            clear hp hH HB4
                            refine hK.out _ _ (HM5.out.s HX.out) (fun hH => ?_)
                            clear hK K
                            simp only [Act.put, List.setIfInBounds_toArray, List.set_cons_zero, List.set_cons_succ]
                            refine wpAnyH_take (i := 15) (oi := ⟨_, _, _, _, _, _⟩) (v := .pointer (some ⟨W2, 2, none⟩)) rfl (by kernel_rfl) (by kernel_rfl) (by kernel_rfl) (fun _ _ _ h => h) (Or.inl ⟨by rfl, fun w' h => by clear h; go_simp⟩) hH ?_
                            simp only [Act.put, List.setIfInBounds_toArray, List.set_cons_zero, List.set_cons_succ]
                            have HA9 : Hid (AM w B W2 Lb W2 (.slice ta ts.length tc) (.slice ba bs.length bc) (.slice (some ⟨gb, 0, none⟩) ns.length nc) ts bs ns (V5.setCell ⟨W2, 2, none⟩ (.slice ua (n + 1) uc)) uT uB (.slice ua (n + 1) uc) gT gB (gs ++ [((.slice ga (xm + 1) gc), xm + 1)]) ts.length bs.length (n + 1)) := HA2.out.stepN HX.out HP4.out HP5.out
                            obtain ⟨m0, m1, m2⟩ := three9 HM5.out.m
                            have mf := frz9 HM5.out.m 2
                            refine wpAnyH_ready (rs := [16]) (by kernel_rfl) (by simp) ?_
                            refine (AllReadyH.cons (o := ⟨_, _, _, _, _, _⟩) rfl (fun K hK => ?_) AllReadyH.nil)
                            go_simp
                            refine hK.out _ _ (HA9.out.mdN.s HX.out) (fun hH => ?_)
                            clear hK K hH m0 m1 m2 mf HM4 HM5 HP4 HP5 HA2
                            refine wpAnyH_done (by kernel_rfl) ?_ _
                            go_wp2
                            go_roundg G9
                            case measure => omega
                            case rel => exact ⟨n + 1, by omega, by go_num, _, _, HA9.out⟩
                          · go_simp
                            have HA2 : Hid (AM w B W2 Lb W2 (.slice ta ts.length tc) (.slice ba bs.length bc) (.slice (some ⟨gb, 0, none⟩) ns.length nc) ts bs ns (V0.alloc (.cells #[.int .i64 (-1 - (n : Int))] 3)) uT uB u gT gB gs ts.length bs.length n) := HA.out.later (below1 _ _)
                            have HB2 : Hid (Blk (V0.alloc (.cells #[.int .i64 (-1 - (n : Int))] 3)) V0.heap.size #[.int .i64 (-1 - (n : Int))] 3) := Blk.new _ _ _
                            clear hH
                            refine hK.out _ _ (HA2.out.mdN.s HX.out) (fun hH => ?_)
                            clear hK K HA
                            revert hH HA2 HB2
                            generalize V0.alloc (.cells #[.int .i64 (-1 - (n : Int))] 3) = V2
                            generalize V0.heap.size = G1
                            intro HA2 HB2 hH
                            refine wpAnyH_ready (rs := [1, 12]) (by kernel_rfl) (by simp) ?_
                            refine (AllReadyH.cons (o := ⟨_, _, _, _, _, _⟩) rfl (fun K hK => ?_) (AllReadyH.cons (o := ⟨_, _, _, _, _, _⟩) rfl (fun K hK => ?_) AllReadyH.nil))
                            · obtain ⟨m0, m1, m2⟩ := three9 (HA2.out).m
                              go_simp
                              refine hK.out _ _ hH (fun hH => ?_)
                              clear hK K m0 m1 m2
                              refine wpAnyH_ready (rs := [12]) (by kernel_rfl) (by simp) ?_
                              refine (AllReadyH.cons (o := ⟨_, _, _, _, _, _⟩) rfl (fun K hK => ?_) AllReadyH.nil)
                              refine in9N rfl _ _ rfl B xv xm _ (by rfl) (HA2.out.n.r n _ (Nat.le_refl _) HX.out) G1 #[.int .i64 (-1 - (n : Int))] (by rfl) (by rfl) HB2.out (by intro q hq; simp at hq; subst hq; rfl) (by omega) (Nat.le_trans HA2.out.w HA2.out.z) ?_
                              intro G V3 hp
                              obtain ⟨ga, gc, rfl⟩ := own_form9 hp.1
                              have HP3 : Hid (Ap B 3 1 V2 V3 xv xm (.slice ga (xm + 1) gc) ((List.replicate xm (oI n)).flatMap encI ++ encI (oI n))) := hp
                              have HM3 : Hid (Md B W2 Lb W2 #[(.slice ta ts.length tc), (.slice ba bs.length bc), (.slice (some ⟨gb, 0, none⟩) ns.length nc)] #[uT, uB, u] 48 (.slice (some ⟨gb, 0, none⟩) ns.length nc) u ns gs n V3) := HA2.out.mdN.ap hp (HA2.out.n.r n _ (Nat.le_refl _) HX.out) (by decide) (by decide)
                              clear hp hH HB2
                              refine hK.out _ _ (HM3.out.s HX.out) (fun hH => ?_)
                              clear hK K
                              simp only [Act.put, List.setIfInBounds_toArray, List.set_cons_zero, List.set_cons_succ]
                              refine wpAnyH_ready (rs := [13]) (by kernel_rfl) (by simp) ?_
                              refine (AllReadyH.cons (o := ⟨_, _, _, _, _, _⟩) rfl (fun K hK => ?_) AllReadyH.nil)
                              go_simp
                              have HP4 : Hid (Ap B 3 1 V2 (V3.alloc (.cells #[(.slice ga (xm + 1) gc)] 48)) xv xm (.slice ga (xm + 1) gc) ((List.replicate xm (oI n)).flatMap encI ++ encI (oI n))) := HP3.out.later (below1 _ _)
                              have HM4 : Hid (Md B W2 Lb W2 #[(.slice ta ts.length tc), (.slice ba bs.length bc), (.slice (some ⟨gb, 0, none⟩) ns.length nc)] #[uT, uB, u] 48 (.slice (some ⟨gb, 0, none⟩) ns.length nc) u ns gs n (V3.alloc (.cells #[(.slice ga (xm + 1) gc)] 48))) := HM3.out.later (below1 _ _)
                              have HB4 : Hid (Blk (V3.alloc (.cells #[(.slice ga (xm + 1) gc)] 48)) V3.heap.size #[(.slice ga (xm + 1) gc)] 48) := Blk.new _ _ _
                              clear hH HP3 HM3
                              refine hK.out _ _ (HM4.out.s HX.out) (fun hH => ?_)
                              clear hK K
                              revert hH HP4 HM4 HB4
                              generalize V3.alloc (.cells #[(.slice ga (xm + 1) gc)] 48) = V4
                              generalize V3.heap.size = G3
                              intro HP4 HM4 HB4 hH
                              refine wpAnyH_ready (rs := [14]) (by kernel_rfl) (by simp) ?_
                              refine (AllReadyH.cons (o := ⟨_, _, _, _, _, _⟩) rfl (fun K hK => ?_) AllReadyH.nil)
                              refine out9N rfl _ _ rfl W2 u n _ (by rfl) HM4.out.u' G3 #[(.slice ga (xm + 1) gc)] (by rfl) (by rfl) HB4.out (by intro q hq; simp at hq; subst hq; exact one_G HP4.out.1) (by omega) HM4.out.z ?_
                              intro u2 V5 hp
                              obtain ⟨ua, uc, rfl⟩ := own_form9 hp.1
                              have HP5 : Hid (Ap W2 48 1 V4 V5 u n (.slice ua (n + 1) uc) (gs.map (·.1) ++ [(.slice ga (xm + 1) gc)])) := hp
                              have HM5 : Hid (Md B W2 Lb W2 #[(.slice ta ts.length tc), (.slice ba bs.length bc), (.slice (some ⟨gb, 0, none⟩) ns.length nc)] #[uT, uB, u] 48 (.slice (some ⟨gb, 0, none⟩) ns.length nc) (.slice ua (n + 1) uc) ns (gs ++ [((.slice ga (xm + 1) gc), xm + 1)]) (n + 1) V5) := HM4.out.ap2 hp (by decide)
                              clear hp hH HB4
                              refine hK.out _ _ (HM5.out.s HX.out) (fun hH => ?_)
                              clear hK K
                              simp only [Act.put, List.setIfInBounds_toArray, List.set_cons_zero, List.set_cons_succ]
                              refine wpAnyH_take (i := 15) (oi := ⟨_, _, _, _, _, _⟩) (v := .pointer (some ⟨W2, 2, none⟩)) rfl (by kernel_rfl) (by kernel_rfl) (by kernel_rfl) (fun _ _ _ h => h) (Or.inl ⟨by rfl, fun w' h => by clear h; go_simp⟩) hH ?_
                              simp only [Act.put, List.setIfInBounds_toArray, List.set_cons_zero, List.set_cons_succ]
                              have HA9 : Hid (AM w B W2 Lb W2 (.slice ta ts.length tc) (.slice ba bs.length bc) (.slice (some ⟨gb, 0, none⟩) ns.length nc) ts bs ns (V5.setCell ⟨W2, 2, none⟩ (.slice ua (n + 1) uc)) uT uB (.slice ua (n + 1) uc) gT gB (gs ++ [((.slice ga (xm + 1) gc), xm + 1)]) ts.length bs.length (n + 1)) := HA2.out.stepN HX.out HP4.out HP5.out
                              obtain ⟨m0, m1, m2⟩ := three9 HM5.out.m
                              have mf := frz9 HM5.out.m 2
                              refine wpAnyH_ready (rs := [16]) (by kernel_rfl) (by simp) ?_
                              refine (AllReadyH.cons (o := ⟨_, _, _, _, _, _⟩) rfl (fun K hK => ?_) AllReadyH.nil)
                              go_simp
                              refine hK.out _ _ (HA9.out.mdN.s HX.out) (fun hH => ?_)
                              clear hK K hH m0 m1 m2 mf HM4 HM5 HP4 HP5 HA2
                              refine wpAnyH_done (by kernel_rfl) ?_ _
                              go_wp2
                              go_roundg G9
                              case measure => omega
                              case rel => exact ⟨n + 1, by omega, by go_num, _, _, HA9.out⟩
                            · refine in9N rfl _ _ rfl B xv xm _ (by rfl) (HA2.out.n.r n _ (Nat.le_refl _) HX.out) G1 #[.int .i64 (-1 - (n : Int))] (by rfl) (by rfl) HB2.out (by intro q hq; simp at hq; subst hq; rfl) (by omega) (Nat.le_trans HA2.out.w HA2.out.z) ?_
                              intro G V3 hp
                              obtain ⟨ga, gc, rfl⟩ := own_form9 hp.1
                              have HP3 : Hid (Ap B 3 1 V2 V3 xv xm (.slice ga (xm + 1) gc) ((List.replicate xm (oI n)).flatMap encI ++ encI (oI n))) := hp
                              have HM3 : Hid (Md B W2 Lb W2 #[(.slice ta ts.length tc), (.slice ba bs.length bc), (.slice (some ⟨gb, 0, none⟩) ns.length nc)] #[uT, uB, u] 48 (.slice (some ⟨gb, 0, none⟩) ns.length nc) u ns gs n V3) := HA2.out.mdN.ap hp (HA2.out.n.r n _ (Nat.le_refl _) HX.out) (by decide) (by decide)
                              clear hp hH HB2
                              refine hK.out _ _ (HM3.out.s HX.out) (fun hH => ?_)
                              clear hK K
                              simp only [Act.put, List.setIfInBounds_toArray, List.set_cons_zero, List.set_cons_succ]
                              refine wpAnyH_ready (rs := [1, 13]) (by kernel_rfl) (by simp) ?_
                              refine (AllReadyH.cons (o := ⟨_, _, _, _, _, _⟩) rfl (fun K hK => ?_) (AllReadyH.cons (o := ⟨_, _, _, _, _, _⟩) rfl (fun K hK => ?_) AllReadyH.nil))
                              · obtain ⟨m0, m1, m2⟩ := three9 (HM3.out).m
                                go_simp
                                refine hK.out _ _ hH (fun hH => ?_)
                                clear hK K m0 m1 m2
                                refine wpAnyH_ready (rs := [13]) (by kernel_rfl) (by simp) ?_
                                refine (AllReadyH.cons (o := ⟨_, _, _, _, _, _⟩) rfl (fun K hK => ?_) AllReadyH.nil)
                                go_simp
                                have HP4 : Hid (Ap B 3 1 V2 (V3.alloc (.cells #[(.slice ga (xm + 1) gc)] 48)) xv xm (.slice ga (xm + 1) gc) ((List.replicate xm (oI n)).flatMap encI ++ encI (oI n))) := HP3.out.later (below1 _ _)
                                have HM4 : Hid (Md B W2 Lb W2 #[(.slice ta ts.length tc), (.slice ba bs.length bc), (.slice (some ⟨gb, 0, none⟩) ns.length nc)] #[uT, uB, u] 48 (.slice (some ⟨gb, 0, none⟩) ns.length nc) u ns gs n (V3.alloc (.cells #[(.slice ga (xm + 1) gc)] 48))) := HM3.out.later (below1 _ _)
                                have HB4 : Hid (Blk (V3.alloc (.cells #[(.slice ga (xm + 1) gc)] 48)) V3.heap.size #[(.slice ga (xm + 1) gc)] 48) := Blk.new _ _ _
                                clear hH HP3 HM3
                                refine hK.out _ _ (HM4.out.s HX.out) (fun hH => ?_)
                                clear hK K
                                revert hH HP4 HM4 HB4
                                generalize V3.alloc (.cells #[(.slice ga (xm + 1) gc)] 48) = V4
                                generalize V3.heap.size = G3
                                intro HP4 HM4 HB4 hH
                                refine wpAnyH_ready (rs := [14]) (by kernel_rfl) (by simp) ?_
                                refine (AllReadyH.cons (o := ⟨_, _, _, _, _, _⟩) rfl (fun K hK => ?_) AllReadyH.nil)
                                refine out9N rfl _ _ rfl W2 u n _ (by rfl) HM4.out.u' G3 #[(.slice ga (xm + 1) gc)] (by rfl) (by rfl) HB4.out (by intro q hq; simp at hq; subst hq; exact one_G HP4.out.1) (by omega) HM4.out.z ?_
                                intro u2 V5 hp
                                obtain ⟨ua, uc, rfl⟩ := own_form9 hp.1
                                have HP5 : Hid (Ap W2 48 1 V4 V5 u n (.slice ua (n + 1) uc) (gs.map (·.1) ++ [(.slice ga (xm + 1) gc)])) := hp
                                have HM5 : Hid (Md B W2 Lb W2 #[(.slice ta ts.length tc), (.slice ba bs.length bc), (.slice (some ⟨gb, 0, none⟩) ns.length nc)] #[uT, uB, u] 48 (.slice (some ⟨gb, 0, none⟩) ns.length nc) (.slice ua (n + 1) uc) ns (gs ++ [((.slice ga (xm + 1) gc), xm + 1)]) (n + 1) V5) := HM4.out.ap2 hp (by decide)
                                clear hp hH HB4
                                refine hK.out _ _ (HM5.out.s HX.out) (fun hH => ?_)
                                clear hK K
                                simp only [Act.put, List.setIfInBounds_toArray, List.set_cons_zero, List.set_cons_succ]
                                refine wpAnyH_take (i := 15) (oi := ⟨_, _, _, _, _, _⟩) (v := .pointer (some ⟨W2, 2, none⟩)) rfl (by kernel_rfl) (by kernel_rfl) (by kernel_rfl) (fun _ _ _ h => h) (Or.inl ⟨by rfl, fun w' h => by clear h; go_simp⟩) hH ?_
                                simp only [Act.put, List.setIfInBounds_toArray, List.set_cons_zero, List.set_cons_succ]
                                have HA9 : Hid (AM w B W2 Lb W2 (.slice ta ts.length tc) (.slice ba bs.length bc) (.slice (some ⟨gb, 0, none⟩) ns.length nc) ts bs ns (V5.setCell ⟨W2, 2, none⟩ (.slice ua (n + 1) uc)) uT uB (.slice ua (n + 1) uc) gT gB (gs ++ [((.slice ga (xm + 1) gc), xm + 1)]) ts.length bs.length (n + 1)) := HA2.out.stepN HX.out HP4.out HP5.out
                                obtain ⟨m0, m1, m2⟩ := three9 HM5.out.m
                                have mf := frz9 HM5.out.m 2
                                refine wpAnyH_ready (rs := [16]) (by kernel_rfl) (by simp) ?_
                                refine (AllReadyH.cons (o := ⟨_, _, _, _, _, _⟩) rfl (fun K hK => ?_) AllReadyH.nil)
                                go_simp
                                refine hK.out _ _ (HA9.out.mdN.s HX.out) (fun hH => ?_)
                                clear hK K hH m0 m1 m2 mf HM4 HM5 HP4 HP5 HA2
                                refine wpAnyH_done (by kernel_rfl) ?_ _
                                go_wp2
                                go_roundg G9
                                case measure => omega
                                case rel => exact ⟨n + 1, by omega, by go_num, _, _, HA9.out⟩
                              · go_simp
                                have HP4 : Hid (Ap B 3 1 V2 (V3.alloc (.cells #[(.slice ga (xm + 1) gc)] 48)) xv xm (.slice ga (xm + 1) gc) ((List.replicate xm (oI n)).flatMap encI ++ encI (oI n))) := HP3.out.later (below1 _ _)
                                have HM4 : Hid (Md B W2 Lb W2 #[(.slice ta ts.length tc), (.slice ba bs.length bc), (.slice (some ⟨gb, 0, none⟩) ns.length nc)] #[uT, uB, u] 48 (.slice (some ⟨gb, 0, none⟩) ns.length nc) u ns gs n (V3.alloc (.cells #[(.slice ga (xm + 1) gc)] 48))) := HM3.out.later (below1 _ _)
                                have HB4 : Hid (Blk (V3.alloc (.cells #[(.slice ga (xm + 1) gc)] 48)) V3.heap.size #[(.slice ga (xm + 1) gc)] 48) := Blk.new _ _ _
                                clear hH HP3 HM3
                                refine hK.out _ _ (HM4.out.s HX.out) (fun hH => ?_)
                                clear hK K
                                revert hH HP4 HM4 HB4
                                generalize V3.alloc (.cells #[(.slice ga (xm + 1) gc)] 48) = V4
                                generalize V3.heap.size = G3
                                intro HP4 HM4 HB4 hH
                                refine wpAnyH_ready (rs := [1]) (by kernel_rfl) (by simp) ?_
                                refine (AllReadyH.cons (o := ⟨_, _, _, _, _, _⟩) rfl (fun K hK => ?_) AllReadyH.nil)
                                obtain ⟨m0, m1, m2⟩ := three9 (HM4.out).m
                                go_simp
                                refine hK.out _ _ hH (fun hH => ?_)
                                clear hK K m0 m1 m2
                                refine wpAnyH_ready (rs := [14]) (by kernel_rfl) (by simp) ?_
                                refine (AllReadyH.cons (o := ⟨_, _, _, _, _, _⟩) rfl (fun K hK => ?_) AllReadyH.nil)
                                refine out9N rfl _ _ rfl W2 u n _ (by rfl) HM4.out.u' G3 #[(.slice ga (xm + 1) gc)] (by rfl) (by rfl) HB4.out (by intro q hq; simp at hq; subst hq; exact one_G HP4.out.1) (by omega) HM4.out.z ?_
                                intro u2 V5 hp
                                obtain ⟨ua, uc, rfl⟩ := own_form9 hp.1
                                have HP5 : Hid (Ap W2 48 1 V4 V5 u n (.slice ua (n + 1) uc) (gs.map (·.1) ++ [(.slice ga (xm + 1) gc)])) := hp
                                have HM5 : Hid (Md B W2 Lb W2 #[(.slice ta ts.length tc), (.slice ba bs.length bc), (.slice (some ⟨gb, 0, none⟩) ns.length nc)] #[uT, uB, u] 48 (.slice (some ⟨gb, 0, none⟩) ns.length nc) (.slice ua (n + 1) uc) ns (gs ++ [((.slice ga (xm + 1) gc), xm + 1)]) (n + 1) V5) := HM4.out.ap2 hp (by decide)
                                clear hp hH HB4
                                refine hK.out _ _ (HM5.out.s HX.out) (fun hH => ?_)
                                clear hK K
                                simp only [Act.put, List.setIfInBounds_toArray, List.set_cons_zero, List.set_cons_succ]
                                refine wpAnyH_take (i := 15) (oi := ⟨_, _, _, _, _, _⟩) (v := .pointer (some ⟨W2, 2, none⟩)) rfl (by kernel_rfl) (by kernel_rfl) (by kernel_rfl) (fun _ _ _ h => h) (Or.inl ⟨by rfl, fun w' h => by clear h; go_simp⟩) hH ?_
                                simp only [Act.put, List.setIfInBounds_toArray, List.set_cons_zero, List.set_cons_succ]
                                have HA9 : Hid (AM w B W2 Lb W2 (.slice ta ts.length tc) (.slice ba bs.length bc) (.slice (some ⟨gb, 0, none⟩) ns.length nc) ts bs ns (V5.setCell ⟨W2, 2, none⟩ (.slice ua (n + 1) uc)) uT uB (.slice ua (n + 1) uc) gT gB (gs ++ [((.slice ga (xm + 1) gc), xm + 1)]) ts.length bs.length (n + 1)) := HA2.out.stepN HX.out HP4.out HP5.out
                                obtain ⟨m0, m1, m2⟩ := three9 HM5.out.m
                                have mf := frz9 HM5.out.m 2
                                refine wpAnyH_ready (rs := [16]) (by kernel_rfl) (by simp) ?_
                                refine (AllReadyH.cons (o := ⟨_, _, _, _, _, _⟩) rfl (fun K hK => ?_) AllReadyH.nil)
                                go_simp
                                refine hK.out _ _ (HA9.out.mdN.s HX.out) (fun hH => ?_)
                                clear hK K hH m0 m1 m2 mf HM4 HM5 HP4 HP5 HA2
                                refine wpAnyH_done (by kernel_rfl) ?_ _
                                go_wp2
                                go_roundg G9
                                case measure => omega
                                case rel => exact ⟨n + 1, by omega, by go_num, _, _, HA9.out⟩
                        · have k1 : ¬ (n : Int) < (ns.length : Int) := by omega
                          obtain rfl : n = ns.length := by omega
                          skip
                          obtain ⟨rt, rt2⟩ := rdT_of HAM.out.t HTB.out
                          obtain ⟨rb, rb2⟩ := rdB_of HAM.out.b' HBB.out
                          obtain ⟨rn, rn2⟩ := rdN_of HAM.out.n HNB.out
                          have HC1 : Hid (∀ X : World, Below wr.heap.size wr X → Calls Tryd.prog 17 #[.pointer (some ⟨Lb, 0, none⟩)] X fun e w9 => e = .returned (.bool true) ∧ Below X.heap.size X w9) := fun X hX => marked_any Lb _ _ _ ts bs ns X (HAM.out.l.later hX) (rt.later hX) (rb.later hX) (rn.later hX) h1 h2 h3
                          have HC2 : Hid (∀ X : World, Below wr.heap.size wr X → Calls Tryd.prog 17 #[.pointer (some ⟨W2, 0, none⟩)] X fun e w9 => e = .returned (.bool true) ∧ Below X.heap.size X w9) := fun X hX => marked_any W2 _ _ _ gT gB gs X (HAM.out.m.later hX) (rt2.later hX) (rb2.later hX) (rn2.later hX) (by rw [HAM.out.t.l]; exact h1) (by rw [HAM.out.b'.l]; exact h2) (by rw [HAM.out.n.l]; exact h3)
                          have HBW : Hid (Below B w wr) := HAM.out.b
                          have HBZ : Hid (B ≤ wr.heap.size) := Nat.le_trans HAM.out.w HAM.out.z
                          clear rt rb rn rt2 rb2 rn2 HAM
                          go_wp2_with (first
                            | (go_at_call 17; refine (HC1.out _ (Below.refl _ _)).mono ?_; clear HC1; rintro e w1 ⟨rfl, hb1⟩)
                            | (go_at_call 17; refine (HC2.out _ hb1).mono ?_; rintro e w2 ⟨rfl, hb2⟩))
                          go_ret
                          exact ⟨rfl, HBW.out.trans ((below_step hb1 hb2).mono HBZ.out)⟩
end Go.Proofs.YtnaiecemmhioeaaDoor
