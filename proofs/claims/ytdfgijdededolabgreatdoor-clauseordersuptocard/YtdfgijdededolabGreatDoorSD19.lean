import Derived.Test.YtdfgijdededolabGreatDoorSD15
import Derived.Test.YtdfgijdededolabGreatDoorCL21
import Derived.Test.YtdfgijdededolabGreatDoorW4
/-
  ref's Set, whole.
-/
namespace Go.Proofs.YtdfgijdededolabGreatDoor
open Go.RowKit

set_option maxRecDepth 20000 in
set_option maxHeartbeats 2000000 in
theorem rset_nil (a : Option Addr) (cap : Nat) (w : World) : Calls Tryz.prog 22 #[.slice a 0 cap] w (RSP w []) := by
  have HRS : Hid (RSP w [] (.returned (.slice none 0 0)) w) := rsp_mk (o := []) ⟨Or.inl ⟨rfl, rfl⟩, fun c hc => by cases hc⟩ (fun c hc => by cases hc) (Nat.le_refl _) SetK.nil (Below.refl _ _)
  go_enter Tryz.func22, Tryz.ntmps22
  go_wp2
  go_ret
  exact HRS.out
/-- A list of clauses with all that ref's Set wants. -/
structure RSL (w : World) (v : Value) (l : List Cm) : Prop where
  c : CsP w v l
  p : ∀ c ∈ l, OKP w c ∧ (Ck.terms c.key).length ≤ 4000000 ∧ c.szs
  q : ∀ a n cap, v = .slice a n cap → n ≤ cap
theorem OKP.laterS {w w' : World} {c : Cm} (h : OKP w c) (hb : Below w.heap.size w w') : OKP w' c := ⟨h.ok.later hb, h.hh.later hb, fun x hx => (h.hp x hx).later hb, h.bp.later hb⟩
theorem rset_any : ∀ (N : Nat) (l : List Cm) (v : Value) (w : World), l.length ≤ N → RSL w v l → l.length ≤ 1000000000 → Calls Tryz.prog 22 #[v] w (RSP w l)
  | N, [], v, w, _, h, _ => by
    obtain ⟨a, cap, rfl⟩ := h.c.form
    exact rset_nil a cap w
  | N, [c], v, w, _, h, _ => by
    obtain ⟨h1, h2, h3⟩ := h.p c (List.mem_singleton.2 rfl)
    refine (rset_one c v w h.c h1 h2).mono fun e w' ⟨v', o, he, hc, hk, hb⟩ => ?_
    subst he
    have hlen : o.length = 1 := by have := congrArg List.length hk; simpa using this
    refine rsp_mk hc (fun d hd => szs_key (c := c) ?_ h3) (by rw [hlen]; exact Nat.le_refl _) (by rw [hk]; exact SetK.one (c := c) (d := c) rfl) hb
    have : d.key ∈ o.map Cm.key := List.mem_map.2 ⟨d, hd, rfl⟩
    rw [hk] at this
    simpa using this
  | 0, c :: d :: l, v, w, hN, h, hl => by simp at hN
  | N + 1, c :: d :: l, v, w, hN, h, hl => by
    obtain ⟨va, vc, rfl⟩ := h.c.form
    obtain ⟨b, o, rfl, hr⟩ := h.c.get (j := 0) (c := c) rfl
    have hcap := h.q _ _ _ rfl
    have hl2 : (c :: d :: l).length = l.length + 2 := rfl
    refine rset_step b o vc (c :: d :: l) w (by omega) hl hcap (fun X hX => ?_) (fun X hX => ?_)
    · refine rset_any N _ _ X (by rw [List.length_take]; omega) ⟨(h.c.later hX).take (by omega) vc, fun x hx => ?_, fun a n cp e => ?_⟩ (by rw [List.length_take]; omega)
      · obtain ⟨h1, h2⟩ := h.p x (List.mem_of_mem_take hx); exact ⟨h1.laterS hX, h2⟩
      · simp only [Value.slice.injEq] at e; omega
    · refine rset_any N _ _ X (by rw [List.length_drop]; omega) ⟨(h.c.later hX).drop (by omega) _, fun x hx => ?_, fun a n cp e => ?_⟩ (by rw [List.length_drop]; omega)
      · obtain ⟨h1, h2⟩ := h.p x (List.mem_of_mem_drop hx); exact ⟨h1.laterS hX, h2⟩
      · simp only [Value.slice.injEq] at e; omega
end Go.Proofs.YtdfgijdededolabGreatDoor
/-
  ClauseOrders: the walk. (Written by SD19.py.)
-/
namespace Go.Proofs.YtdfgijdededolabGreatDoor
open Go.RowKit
attribute [local go_sem ↓] Go.wp_at_zero Go.wp_at_succ

theorem set3_any (l : List Cm) (v : Value) (w : World) (h : CsP w v l) (hl : l.length ≤ 1000000000) (hz : ∀ c ∈ l, c.sml) :
    Calls Tryz.prog 20 #[v] w fun e w' => ∃ v' o, e = .returned v' ∧ CsP w' v' o ∧ SetK (o.map Cm.key) l ∧ Below w.heap.size w w' :=
  (set_any l v w h hl hz).mono fun e w' ⟨v', he, o, ho, l', hk, hp, hs, hb⟩ => ⟨v', o, he, ho.csp, by rw [hk]; exact SetK.of hp hs, hb⟩
theorem SetK.keys {K K' : List Ck} {l l' : List Cm} (h : SetK K l) (h' : SetK K' l') (hm : l.map Cm.key = l'.map Cm.key) : K = K' :=
  rise_uniq K K' h.rise h'.rise fun k => by
    have e : ∀ q : List Cm, (∃ c ∈ q, c.key = k) ↔ k ∈ q.map Cm.key := fun q => by simp [List.mem_map]
    rw [h.mem, h'.mem, e, e, hm]
theorem sml_terms {c : Cm} (h : (Ck.terms c.key).length ≤ 4000000) : c.sml := by
  obtain ⟨s1, s2, s3, s4⟩ := cm_sizes h
  exact ⟨by omega, by omega, by omega, fun x hx => by have := s4 x hx; omega⟩
theorem RSL.laterS {w w' : World} {v : Value} {l : List Cm} (h : RSL w v l) (hb : Below w.heap.size w w') : RSL w' v l := ⟨h.c.later hb, fun c hc => ⟨(h.p c hc).1.laterS hb, (h.p c hc).2⟩, h.q⟩
/-- The lists' half of the law. -/
theorem lists_keys {LB l : List Cm} (hk : LB.map Cm.key = l.map Cm.key) (hs : ∀ c ∈ l, (Ck.terms c.key).length ≤ 4000000) : ∀ d ∈ LB, (Ck.terms d.key).length ≤ 4000000 := fun d hd => by
  have hm : d.key ∈ LB.map Cm.key := List.mem_map.2 ⟨d, hd, rfl⟩
  rw [hk] at hm
  obtain ⟨c, hc, e⟩ := List.mem_map.1 hm
  rw [← e]; exact hs c hc
set_option maxRecDepth 20000 in
set_option maxHeartbeats 8000000 in
theorem orders_any (a b : Cm) (l : List Cm) (v : Value) (w : World) (pa : LP w a) (pb : LP w b) (za : a.szs) (zb : b.szs) (hr : RSL w v l) (hp : ∀ c ∈ l, LP w c) (hl : l.length ≤ 1000000000) (hB : BehOk w) :
    Calls Tryz.prog 4 #[a.v, b.v, v] w fun e w' => e = .returned (.bool true) ∧ Below w.heap.size w w' := by
  have HLA : Hid (∀ X : World, Below w.heap.size w X → Calls Tryz.prog 17 #[a.v] X fun e w' => ∃ d : Cm, e = .returned d.v ∧ d.key = a.key ∧ Lent X.heap.size w' d ∧ Below X.heap.size X w') := fun X hX => lendC_any a X (pa.later hX).ok (pa.later hX).hh (pa.later hX).hp (pa.later hX).ht pa.hs (hB.later hX)
  have HLB : Hid (∀ X : World, Below w.heap.size w X → Calls Tryz.prog 17 #[b.v] X fun e w' => ∃ d : Cm, e = .returned d.v ∧ d.key = b.key ∧ Lent X.heap.size w' d ∧ Below X.heap.size X w') := fun X hX => lendC_any b X (pb.later hX).ok (pb.later hX).hh (pb.later hX).hp (pb.later hX).ht pb.hs (hB.later hX)
  have HRC : Hid (∀ X : World, Below w.heap.size w X → Calls Tryz.prog 18 #[a.v, b.v] X fun e w' => e = .returned (.int .i64 (cmpC a.key b.key)) ∧ Below X.heap.size X w') := fun X hX => by rw [← cmp_key]; exact rcompareC_any a b X (pa.ok.later hX) (pb.ok.later hX) za zb
  have HKA : Hid (∀ (X : World) (d : Cm) (B : Nat), Below w.heap.size w X → Lent B X d → d.key = a.key → Calls Tryz.prog 23 #[d.v, a.v] X fun e w' => e = .returned (.bool true) ∧ Below X.heap.size X w') := fun X d B hX hd hk => keptC_any d a B X (pa.ok.later hX) hd hk pa.hs (hB.later hX)
  have HKB : Hid (∀ (X : World) (d : Cm) (B : Nat), Below w.heap.size w X → Lent B X d → d.key = b.key → Calls Tryz.prog 23 #[d.v, b.v] X fun e w' => e = .returned (.bool true) ∧ Below X.heap.size X w') := fun X d B hX hd hk => keptC_any d b B X (pb.ok.later hX) hd hk pb.hs (hB.later hX)
  have HTA : Hid ((Ck.terms a.key).length ≤ 4000000) := pa.hs
  have HTB : Hid ((Ck.terms b.key).length ≤ 4000000) := pb.hs
  have HR : Hid (RSL w v l) := hr
  have HP : Hid (∀ c ∈ l, LP w c) := hp
  have HBH : Hid (BehOk w) := hB
  have shA := pa.ok.shape
  have shB := pb.ok.shape
  obtain ⟨KA, hKA⟩ : ∃ K, a.key = K := ⟨_, rfl⟩
  obtain ⟨KB, hKB⟩ : ∃ K, b.key = K := ⟨_, rfl⟩
  rw [hKA] at HLA HRC HKA HTA
  rw [hKB] at HLB HRC HKB HTB
  obtain ⟨va, vc, rfl⟩ := hr.c.form
  clear pa pb za zb hr hp hB hKA hKB
  obtain ⟨⟨f1, f2, f3, e1⟩, ⟨f4, f6, e2⟩, ⟨f7, f9, e3⟩, -, -⟩ := shA; obtain ⟨⟨⟨⟨fk, fm, fs⟩, fn, fl⟩, fx⟩, fb, fbv, ft, ftv⟩ := a; simp only at e1 e2 e3; obtain ⟨f5, h5⟩ : ∃ n, fb.length = n := ⟨_, rfl⟩; obtain ⟨f8, h8⟩ : ∃ n, ft.length = n := ⟨_, rfl⟩; rw [h5] at e2; rw [h8] at e3; subst e1 e2 e3; clear h5 h8
  obtain ⟨⟨j1, j2, j3, e1⟩, ⟨j4, j6, e2⟩, ⟨j7, j9, e3⟩, -, -⟩ := shB; obtain ⟨⟨⟨⟨jk, jm, js⟩, jn, jl⟩, jx⟩, jb, jbv, jt, jtv⟩ := b; simp only at e1 e2 e3; obtain ⟨j5, h5⟩ : ∃ n, jb.length = n := ⟨_, rfl⟩; obtain ⟨j8, h8⟩ : ∃ n, jt.length = n := ⟨_, rfl⟩; rw [h5] at e2; rw [h8] at e3; subst e1 e2 e3; clear h5 h8
  have BA : Hid (CBlk ((w.alloc (.cells #[.int .i64 fk, .int .i64 fm, .string fs, .string fn, .slice f1 f2 f3, .slice f4 f5 f6, .slice f7 f8 f9] 41)).alloc (.cells #[.int .i64 jk, .int .i64 jm, .string js, .string jn, .slice j1 j2 j3, .slice j4 j5 j6, .slice j7 j8 j9] 41)) w.heap.size #[.int .i64 fk, .int .i64 fm, .string fs, .string fn, .slice f1 f2 f3, .slice f4 f5 f6, .slice f7 f8 f9] 41) := (CBlk.new _ _ _).later (below1 _ _)
  have BB : Hid (CBlk ((w.alloc (.cells #[.int .i64 fk, .int .i64 fm, .string fs, .string fn, .slice f1 f2 f3, .slice f4 f5 f6, .slice f7 f8 f9] 41)).alloc (.cells #[.int .i64 jk, .int .i64 jm, .string js, .string jn, .slice j1 j2 j3, .slice j4 j5 j6, .slice j7 j8 j9] 41)) (w.heap.size + 1) #[.int .i64 jk, .int .i64 jm, .string js, .string jn, .slice j1 j2 j3, .slice j4 j5 j6, .slice j7 j8 j9] 41) := by have := CBlk.new (w.alloc (.cells #[.int .i64 fk, .int .i64 fm, .string fs, .string fn, .slice f1 f2 f3, .slice f4 f5 f6, .slice f7 f8 f9] 41)) #[.int .i64 jk, .int .i64 jm, .string js, .string jn, .slice j1 j2 j3, .slice j4 j5 j6, .slice j7 j8 j9] 41; rw [show (w.alloc (.cells #[.int .i64 fk, .int .i64 fm, .string fs, .string fn, .slice f1 f2 f3, .slice f4 f5 f6, .slice f7 f8 f9] 41)).heap.size = w.heap.size + 1 by simp] at this; exact this
  have HW : Hid (Below w.heap.size w ((w.alloc (.cells #[.int .i64 fk, .int .i64 fm, .string fs, .string fn, .slice f1 f2 f3, .slice f4 f5 f6, .slice f7 f8 f9] 41)).alloc (.cells #[.int .i64 jk, .int .i64 jm, .string js, .string jn, .slice j1 j2 j3, .slice j4 j5 j6, .slice j7 j8 j9] 41))) := below2 _ _ _
  go_enter Tryz.func4, Tryz.ntmps4
  go_upto_region 2 with (go_at_call 17; refine (HLA.out _ HW.out).mono ?_; clear HLA; rintro e w1 ⟨x, rfl, hxk, hxl, hb⟩; have shX := (hxl.okk (by rw [hxk]; exact HTA.out)).shape; have HXK : Hid (x.key = KA) := hxk; have HXL : Hid (∃ B, Lent B w1 x) := ⟨_, hxl⟩; have HWn := below_step HW.out hb; have BA : Hid (CBlk w1 w.heap.size #[.int .i64 fk, .int .i64 fm, .string fs, .string fn, .slice f1 f2 f3, .slice f4 f5 f6, .slice f7 f8 f9] 41) := BA.out.later hb; have BB : Hid (CBlk w1 (w.heap.size + 1) #[.int .i64 jk, .int .i64 jm, .string js, .string jn, .slice j1 j2 j3, .slice j4 j5 j6, .slice j7 j8 j9] 41) := BB.out.later hb; clear hxk hxl hb HW; obtain ⟨⟨x1, x2, x3, e1⟩, ⟨x4, x6, e2⟩, ⟨x7, x9, e3⟩, -, -⟩ := shX; obtain ⟨⟨⟨⟨xk, xm, xs⟩, xn, xl⟩, xx⟩, xb, xbv, xt, xtv⟩ := x; simp only at e1 e2 e3; obtain ⟨x5, h5⟩ : ∃ n, xb.length = n := ⟨_, rfl⟩; obtain ⟨x8, h8⟩ : ∃ n, xt.length = n := ⟨_, rfl⟩; rw [h5] at e2; rw [h8] at e3; subst e1 e2 e3; clear h5 h8)
  have hb := below1 w1 (.cells #[.int .i64 xk, .int .i64 xm, .string xs, .string xn, .slice x1 x2 x3, .slice x4 x5 x6, .slice x7 x8 x9] 41)
  have BX := CBlk.new w1 #[.int .i64 xk, .int .i64 xm, .string xs, .string xn, .slice x1 x2 x3, .slice x4 x5 x6, .slice x7 x8 x9] 41
  have BA := BA.out.later hb
  have BB := BB.out.later hb
  have HW := below_step HWn hb
  have HXL := HXL.out.imp fun B h => Lent.later h hb
  clear hb HWn
  revert BX BA BB HW HXL
  generalize w1.alloc (.cells #[.int .i64 xk, .int .i64 xm, .string xs, .string xn, .slice x1 x2 x3, .slice x4 x5 x6, .slice x7 x8 x9] 41) = w1a
  generalize w1.heap.size = gx
  intro BX BA BB HW HXL
  have BX : Hid (CBlk w1a gx #[.int .i64 xk, .int .i64 xm, .string xs, .string xn, .slice x1 x2 x3, .slice x4 x5 x6, .slice x7 x8 x9] 41) := BX
  have BA : Hid (CBlk w1a w.heap.size #[.int .i64 fk, .int .i64 fm, .string fs, .string fn, .slice f1 f2 f3, .slice f4 f5 f6, .slice f7 f8 f9] 41) := BA
  have BB : Hid (CBlk w1a (w.heap.size + 1) #[.int .i64 jk, .int .i64 jm, .string js, .string jn, .slice j1 j2 j3, .slice j4 j5 j6, .slice j7 j8 j9] 41) := BB
  have HW : Hid (Below w.heap.size w w1a) := HW
  have HXL : Hid (∃ B, Lent B w1a ⟨(⟨⟨xk, xm, xs⟩, xn, xl⟩, .slice x1 x2 x3), xb, .slice x4 x5 x6, xt, .slice x7 x8 x9⟩) := HXL
  obtain ⟨ca0, ca1, ca2, ca3, ca4, ca5, ca6⟩ := cseven BA.out; obtain ⟨cb0, cb1, cb2, cb3, cb4, cb5, cb6⟩ := cseven BB.out; obtain ⟨cx0, cx1, cx2, cx3, cx4, cx5, cx6⟩ := cseven BX.out
  go_upto_region 3 with (go_at_call 17; refine (HLB.out _ HW.out).mono ?_; clear HLB; clear ca0 ca1 ca2 ca3 ca4 ca5 ca6 cb0 cb1 cb2 cb3 cb4 cb5 cb6 cx0 cx1 cx2 cx3 cx4 cx5 cx6; rintro e w2 ⟨y, rfl, hyk, hyl, hb⟩; have shY := (hyl.okk (by rw [hyk]; exact HTB.out)).shape; have HYK : Hid (y.key = KB) := hyk; have HYL : Hid (∃ B, Lent B w2 y) := ⟨_, hyl⟩; have HWn := below_step HW.out hb; have BA : Hid (CBlk w2 w.heap.size #[.int .i64 fk, .int .i64 fm, .string fs, .string fn, .slice f1 f2 f3, .slice f4 f5 f6, .slice f7 f8 f9] 41) := BA.out.later hb; have BB : Hid (CBlk w2 (w.heap.size + 1) #[.int .i64 jk, .int .i64 jm, .string js, .string jn, .slice j1 j2 j3, .slice j4 j5 j6, .slice j7 j8 j9] 41) := BB.out.later hb; have BX : Hid (CBlk w2 gx #[.int .i64 xk, .int .i64 xm, .string xs, .string xn, .slice x1 x2 x3, .slice x4 x5 x6, .slice x7 x8 x9] 41) := BX.out.later hb; have HXL : Hid (∃ B, Lent B w2 ⟨(⟨⟨xk, xm, xs⟩, xn, xl⟩, .slice x1 x2 x3), xb, .slice x4 x5 x6, xt, .slice x7 x8 x9⟩) := (HXL.out.imp fun B h => Lent.later h hb); clear hyk hyl hb HW; obtain ⟨⟨y1, y2, y3, e1⟩, ⟨y4, y6, e2⟩, ⟨y7, y9, e3⟩, -, -⟩ := shY; obtain ⟨⟨⟨⟨yk, ym, ys⟩, yn, yl⟩, yx⟩, yb, ybv, yt, ytv⟩ := y; simp only at e1 e2 e3; obtain ⟨y5, h5⟩ : ∃ n, yb.length = n := ⟨_, rfl⟩; obtain ⟨y8, h8⟩ : ∃ n, yt.length = n := ⟨_, rfl⟩; rw [h5] at e2; rw [h8] at e3; subst e1 e2 e3; clear h5 h8)
  have hb := below1 w2 (.cells #[.int .i64 yk, .int .i64 ym, .string ys, .string yn, .slice y1 y2 y3, .slice y4 y5 y6, .slice y7 y8 y9] 41)
  have BY := CBlk.new w2 #[.int .i64 yk, .int .i64 ym, .string ys, .string yn, .slice y1 y2 y3, .slice y4 y5 y6, .slice y7 y8 y9] 41
  have BA := BA.out.later hb
  have BB := BB.out.later hb
  have BX := BX.out.later hb
  have HW := below_step HWn hb
  have HXL := HXL.out.imp fun B h => Lent.later h hb
  have HYL := HYL.out.imp fun B h => Lent.later h hb
  clear hb HWn
  revert BY BA BB BX HW HXL HYL
  generalize w2.alloc (.cells #[.int .i64 yk, .int .i64 ym, .string ys, .string yn, .slice y1 y2 y3, .slice y4 y5 y6, .slice y7 y8 y9] 41) = w2a
  generalize w2.heap.size = gy
  intro BY BA BB BX HW HXL HYL
  have BY : Hid (CBlk w2a gy #[.int .i64 yk, .int .i64 ym, .string ys, .string yn, .slice y1 y2 y3, .slice y4 y5 y6, .slice y7 y8 y9] 41) := BY
  have BA : Hid (CBlk w2a w.heap.size #[.int .i64 fk, .int .i64 fm, .string fs, .string fn, .slice f1 f2 f3, .slice f4 f5 f6, .slice f7 f8 f9] 41) := BA
  have BB : Hid (CBlk w2a (w.heap.size + 1) #[.int .i64 jk, .int .i64 jm, .string js, .string jn, .slice j1 j2 j3, .slice j4 j5 j6, .slice j7 j8 j9] 41) := BB
  have BX : Hid (CBlk w2a gx #[.int .i64 xk, .int .i64 xm, .string xs, .string xn, .slice x1 x2 x3, .slice x4 x5 x6, .slice x7 x8 x9] 41) := BX
  have HW : Hid (Below w.heap.size w w2a) := HW
  have HXL : Hid (∃ B, Lent B w2a ⟨(⟨⟨xk, xm, xs⟩, xn, xl⟩, .slice x1 x2 x3), xb, .slice x4 x5 x6, xt, .slice x7 x8 x9⟩) := HXL
  have HYL : Hid (∃ B, Lent B w2a ⟨(⟨⟨yk, ym, ys⟩, yn, yl⟩, .slice y1 y2 y3), yb, .slice y4 y5 y6, yt, .slice y7 y8 y9⟩) := HYL
  obtain ⟨R, hR⟩ : ∃ R, cmpC KA KB = R := ⟨_, rfl⟩
  rw [hR] at HRC
  have hrng := ord_c.rng KA KB
  have hneg := ord_c.neg KA KB
  rw [hR] at hrng hneg
  have HOX : Hid (∀ X : World, Below w2a.heap.size w2a X → Cm.ok X ⟨(⟨⟨xk, xm, xs⟩, xn, xl⟩, .slice x1 x2 x3), xb, .slice x4 x5 x6, xt, .slice x7 x8 x9⟩) := fun X hX => by obtain ⟨B, h⟩ := HXL.out; exact (h.later hX).okk (by rw [HXK.out]; exact HTA.out)
  have HOY : Hid (∀ X : World, Below w2a.heap.size w2a X → Cm.ok X ⟨(⟨⟨yk, ym, ys⟩, yn, yl⟩, .slice y1 y2 y3), yb, .slice y4 y5 y6, yt, .slice y7 y8 y9⟩) := fun X hX => by obtain ⟨B, h⟩ := HYL.out; exact (h.later hX).okk (by rw [HYK.out]; exact HTB.out)
  have HC1 : Hid (∀ X : World, Below w2a.heap.size w2a X → Calls Tryz.prog 19 #[.agg #[.int .i64 xk, .int .i64 xm, .string xs, .string xn, .slice x1 x2 x3, .slice x4 x5 x6, .slice x7 x8 x9], .agg #[.int .i64 yk, .int .i64 ym, .string ys, .string yn, .slice y1 y2 y3, .slice y4 y5 y6, .slice y7 y8 y9]] X fun e w' => e = .returned (.int .i64 R) ∧ Below X.heap.size X w') := fun X hX => by have := compareC_any ⟨(⟨⟨xk, xm, xs⟩, xn, xl⟩, .slice x1 x2 x3), xb, .slice x4 x5 x6, xt, .slice x7 x8 x9⟩ ⟨(⟨⟨yk, ym, ys⟩, yn, yl⟩, .slice y1 y2 y3), yb, .slice y4 y5 y6, yt, .slice y7 y8 y9⟩ X (HOX.out X hX) (HOY.out X hX); rw [cmp_key, HXK.out, HYK.out, hR] at this; exact this
  have HC2 : Hid (∀ X : World, Below w2a.heap.size w2a X → Calls Tryz.prog 19 #[.agg #[.int .i64 yk, .int .i64 ym, .string ys, .string yn, .slice y1 y2 y3, .slice y4 y5 y6, .slice y7 y8 y9], .agg #[.int .i64 xk, .int .i64 xm, .string xs, .string xn, .slice x1 x2 x3, .slice x4 x5 x6, .slice x7 x8 x9]] X fun e w' => e = .returned (.int .i64 (-R)) ∧ Below X.heap.size X w') := fun X hX => by have := compareC_any ⟨(⟨⟨yk, ym, ys⟩, yn, yl⟩, .slice y1 y2 y3), yb, .slice y4 y5 y6, yt, .slice y7 y8 y9⟩ ⟨(⟨⟨xk, xm, xs⟩, xn, xl⟩, .slice x1 x2 x3), xb, .slice x4 x5 x6, xt, .slice x7 x8 x9⟩ X (HOY.out X hX) (HOX.out X hX); rw [cmp_key, HXK.out, HYK.out, hneg] at this; exact this
  have HC3 : Hid (∀ X : World, Below w2a.heap.size w2a X → Calls Tryz.prog 19 #[.agg #[.int .i64 xk, .int .i64 xm, .string xs, .string xn, .slice x1 x2 x3, .slice x4 x5 x6, .slice x7 x8 x9], .agg #[.int .i64 xk, .int .i64 xm, .string xs, .string xn, .slice x1 x2 x3, .slice x4 x5 x6, .slice x7 x8 x9]] X fun e w' => e = .returned (.int .i64 0) ∧ Below X.heap.size X w') := fun X hX => by have := compareC_any ⟨(⟨⟨xk, xm, xs⟩, xn, xl⟩, .slice x1 x2 x3), xb, .slice x4 x5 x6, xt, .slice x7 x8 x9⟩ ⟨(⟨⟨xk, xm, xs⟩, xn, xl⟩, .slice x1 x2 x3), xb, .slice x4 x5 x6, xt, .slice x7 x8 x9⟩ X (HOX.out X hX) (HOX.out X hX); rw [cmp_key, ord_c.refl] at this; exact this
  have n1 : (R != R) = false := by simp
  have n2 : (-R != -R) = false := by simp
  have n3 : IntKind.i64.wrap (-R) = -R := by rw [IntKind.wrap_i64]; omega
  clear hR hneg hrng HOX HOY
  obtain ⟨ca0, ca1, ca2, ca3, ca4, ca5, ca6⟩ := cseven BA.out; obtain ⟨cb0, cb1, cb2, cb3, cb4, cb5, cb6⟩ := cseven BB.out; obtain ⟨cx0, cx1, cx2, cx3, cx4, cx5, cx6⟩ := cseven BX.out; obtain ⟨cy0, cy1, cy2, cy3, cy4, cy5, cy6⟩ := cseven BY.out
  go_upto_region 4 with (go_at_call 18; refine (HRC.out _ HW.out).mono ?_; clear HRC; clear ca0 ca1 ca2 ca3 ca4 ca5 ca6 cb0 cb1 cb2 cb3 cb4 cb5 cb6 cx0 cx1 cx2 cx3 cx4 cx5 cx6 cy0 cy1 cy2 cy3 cy4 cy5 cy6; rintro e w3 ⟨rfl, hb⟩; have HW3 : Hid (Below w.heap.size w w3) := below_step HW.out hb; have HV : Hid (Below w2a.heap.size w2a w3) := hb; have BA : Hid (CBlk w3 w.heap.size #[.int .i64 fk, .int .i64 fm, .string fs, .string fn, .slice f1 f2 f3, .slice f4 f5 f6, .slice f7 f8 f9] 41) := BA.out.later hb; have BB : Hid (CBlk w3 (w.heap.size + 1) #[.int .i64 jk, .int .i64 jm, .string js, .string jn, .slice j1 j2 j3, .slice j4 j5 j6, .slice j7 j8 j9] 41) := BB.out.later hb; have BX : Hid (CBlk w3 gx #[.int .i64 xk, .int .i64 xm, .string xs, .string xn, .slice x1 x2 x3, .slice x4 x5 x6, .slice x7 x8 x9] 41) := BX.out.later hb; have BY : Hid (CBlk w3 gy #[.int .i64 yk, .int .i64 ym, .string ys, .string yn, .slice y1 y2 y3, .slice y4 y5 y6, .slice y7 y8 y9] 41) := BY.out.later hb; clear hb)
  obtain ⟨ca0, ca1, ca2, ca3, ca4, ca5, ca6⟩ := cseven BA.out; obtain ⟨cb0, cb1, cb2, cb3, cb4, cb5, cb6⟩ := cseven BB.out; obtain ⟨cx0, cx1, cx2, cx3, cx4, cx5, cx6⟩ := cseven BX.out; obtain ⟨cy0, cy1, cy2, cy3, cy4, cy5, cy6⟩ := cseven BY.out
  go_upto_region 6 with (first | (go_at_call 19; refine (HC1.out _ HV.out).mono ?_; clear HC1; clear ca0 ca1 ca2 ca3 ca4 ca5 ca6 cb0 cb1 cb2 cb3 cb4 cb5 cb6 cx0 cx1 cx2 cx3 cx4 cx5 cx6 cy0 cy1 cy2 cy3 cy4 cy5 cy6; rintro e w4 ⟨rfl, hb⟩; have HV : Hid (Below w2a.heap.size w2a w4) := below_step HV.out hb; have BA : Hid (CBlk w4 w.heap.size #[.int .i64 fk, .int .i64 fm, .string fs, .string fn, .slice f1 f2 f3, .slice f4 f5 f6, .slice f7 f8 f9] 41) := BA.out.later hb; have BB : Hid (CBlk w4 (w.heap.size + 1) #[.int .i64 jk, .int .i64 jm, .string js, .string jn, .slice j1 j2 j3, .slice j4 j5 j6, .slice j7 j8 j9] 41) := BB.out.later hb; have BX : Hid (CBlk w4 gx #[.int .i64 xk, .int .i64 xm, .string xs, .string xn, .slice x1 x2 x3, .slice x4 x5 x6, .slice x7 x8 x9] 41) := BX.out.later hb; have BY : Hid (CBlk w4 gy #[.int .i64 yk, .int .i64 ym, .string ys, .string yn, .slice y1 y2 y3, .slice y4 y5 y6, .slice y7 y8 y9] 41) := BY.out.later hb; clear hb; obtain ⟨ca0, ca1, ca2, ca3, ca4, ca5, ca6⟩ := cseven BA.out; obtain ⟨cb0, cb1, cb2, cb3, cb4, cb5, cb6⟩ := cseven BB.out; obtain ⟨cx0, cx1, cx2, cx3, cx4, cx5, cx6⟩ := cseven BX.out; obtain ⟨cy0, cy1, cy2, cy3, cy4, cy5, cy6⟩ := cseven BY.out) | (go_at_call 19; refine (HC2.out _ HV.out).mono ?_; clear HC2; clear ca0 ca1 ca2 ca3 ca4 ca5 ca6 cb0 cb1 cb2 cb3 cb4 cb5 cb6 cx0 cx1 cx2 cx3 cx4 cx5 cx6 cy0 cy1 cy2 cy3 cy4 cy5 cy6; rintro e w5 ⟨rfl, hb⟩; have HV : Hid (Below w2a.heap.size w2a w5) := below_step HV.out hb; have BA : Hid (CBlk w5 w.heap.size #[.int .i64 fk, .int .i64 fm, .string fs, .string fn, .slice f1 f2 f3, .slice f4 f5 f6, .slice f7 f8 f9] 41) := BA.out.later hb; have BB : Hid (CBlk w5 (w.heap.size + 1) #[.int .i64 jk, .int .i64 jm, .string js, .string jn, .slice j1 j2 j3, .slice j4 j5 j6, .slice j7 j8 j9] 41) := BB.out.later hb; have BX : Hid (CBlk w5 gx #[.int .i64 xk, .int .i64 xm, .string xs, .string xn, .slice x1 x2 x3, .slice x4 x5 x6, .slice x7 x8 x9] 41) := BX.out.later hb; have BY : Hid (CBlk w5 gy #[.int .i64 yk, .int .i64 ym, .string ys, .string yn, .slice y1 y2 y3, .slice y4 y5 y6, .slice y7 y8 y9] 41) := BY.out.later hb; clear hb; obtain ⟨ca0, ca1, ca2, ca3, ca4, ca5, ca6⟩ := cseven BA.out; obtain ⟨cb0, cb1, cb2, cb3, cb4, cb5, cb6⟩ := cseven BB.out; obtain ⟨cx0, cx1, cx2, cx3, cx4, cx5, cx6⟩ := cseven BX.out; obtain ⟨cy0, cy1, cy2, cy3, cy4, cy5, cy6⟩ := cseven BY.out) | (go_at_call 19; refine (HC3.out _ HV.out).mono ?_; clear HC3; clear ca0 ca1 ca2 ca3 ca4 ca5 ca6 cb0 cb1 cb2 cb3 cb4 cb5 cb6 cx0 cx1 cx2 cx3 cx4 cx5 cx6 cy0 cy1 cy2 cy3 cy4 cy5 cy6; rintro e w6 ⟨rfl, hb⟩; have HV : Hid (Below w2a.heap.size w2a w6) := below_step HV.out hb; have BA : Hid (CBlk w6 w.heap.size #[.int .i64 fk, .int .i64 fm, .string fs, .string fn, .slice f1 f2 f3, .slice f4 f5 f6, .slice f7 f8 f9] 41) := BA.out.later hb; have BB : Hid (CBlk w6 (w.heap.size + 1) #[.int .i64 jk, .int .i64 jm, .string js, .string jn, .slice j1 j2 j3, .slice j4 j5 j6, .slice j7 j8 j9] 41) := BB.out.later hb; have BX : Hid (CBlk w6 gx #[.int .i64 xk, .int .i64 xm, .string xs, .string xn, .slice x1 x2 x3, .slice x4 x5 x6, .slice x7 x8 x9] 41) := BX.out.later hb; have BY : Hid (CBlk w6 gy #[.int .i64 yk, .int .i64 ym, .string ys, .string yn, .slice y1 y2 y3, .slice y4 y5 y6, .slice y7 y8 y9] 41) := BY.out.later hb; clear hb; obtain ⟨ca0, ca1, ca2, ca3, ca4, ca5, ca6⟩ := cseven BA.out; obtain ⟨cb0, cb1, cb2, cb3, cb4, cb5, cb6⟩ := cseven BB.out; obtain ⟨cx0, cx1, cx2, cx3, cx4, cx5, cx6⟩ := cseven BX.out; obtain ⟨cy0, cy1, cy2, cy3, cy4, cy5, cy6⟩ := cseven BY.out))
  clear ca0 ca1 ca2 ca3 ca4 ca5 ca6 cb0 cb1 cb2 cb3 cb4 cb5 cb6 cx0 cx1 cx2 cx3 cx4 cx5 cx6 cy0 cy1 cy2 cy3 cy4 cy5 cy6
  have HW6 : Hid (Below w.heap.size w w6) := below_step HW.out HV.out
  have HX6 : Hid (∃ B, Lent B w6 ⟨(⟨⟨xk, xm, xs⟩, xn, xl⟩, .slice x1 x2 x3), xb, .slice x4 x5 x6, xt, .slice x7 x8 x9⟩) := HXL.out.imp fun B h => Lent.later h HV.out
  have HY6 : Hid (∃ B, Lent B w6 ⟨(⟨⟨yk, ym, ys⟩, yn, yl⟩, .slice y1 y2 y3), yb, .slice y4 y5 y6, yt, .slice y7 y8 y9⟩) := HYL.out.imp fun B h => Lent.later h HV.out
  have HS0 : Hid (∀ c ∈ l, (Ck.terms c.key).length ≤ 4000000) := fun c hc => (HP.out c hc).hs
  have HL7 : Hid (Calls Tryz.prog 6 #[.slice va l.length vc] w6 fun e w' => ∃ u LB, e = .returned u ∧ LB.map Cm.key = l.map Cm.key ∧ LentC w' w6.heap.size u LB ∧ Below w6.heap.size w6 w') := lendCs_any l _ w6 (HR.out.c.later HW6.out) (fun c hc => (HP.out c hc).later HW6.out) hl (HBH.out.later HW6.out)
  clear HXL HYL HV HW HW3 n1 n2 n3
  go_upto_region 8 with (first | (go_at_call 6; refine HL7.out.mono ?_; clear HL7; rintro e w7 ⟨u, LB, rfl, hkb, hlc, hb⟩; have HKL : Hid (LB.map Cm.key = l.map Cm.key) := hkb; have HLC : Hid (LentC w7 w6.heap.size u LB) := hlc; have hlen : LB.length = l.length := (by have := congrArg List.length hkb; simpa using this); have HS8 : Hid (Calls Tryz.prog 20 #[u] w7 fun e w' => ∃ v' o, e = .returned v' ∧ CsP w' v' o ∧ SetK (o.map Cm.key) LB ∧ Below w7.heap.size w7 w') := set3_any LB u w7 (hlc.csp (lists_keys hkb HS0.out)) (by omega) (fun c hc => sml_terms (lists_keys hkb HS0.out c hc)); have HV : Hid (Below w6.heap.size w6 w7) := hb; obtain ⟨⟨g7, cap7, hu, -⟩, -⟩ := hlc; subst hu; clear hkb hb hlen) | (go_at_call 20; refine HS8.out.mono ?_; clear HS8; rintro e w8 ⟨s1, o1, rfl, hc1, hk1, hb⟩; have HC1 : Hid (CsP w8 s1 o1) := hc1; have HK1 : Hid (SetK (o1.map Cm.key) LB) := hk1; have HLC8 : Hid (LentC w8 w6.heap.size (.slice (some ⟨g7, 0, none⟩) LB.length cap7) LB) := HLC.out.later hb; have HV8 : Hid (Below w6.heap.size w6 w8) := below_step HV.out hb; obtain ⟨sa, sc, rfl⟩ := hc1.form; clear hc1 hk1 hb HV HLC))
  have HS9 : Hid (Calls Tryz.prog 22 #[.slice va l.length vc] w8 (RSP w8 l)) := rset_any l.length l _ w8 (Nat.le_refl _) (HR.out.laterS (below_step HW6.out HV8.out)) hl
  go_upto_region 10 with (first | (go_at_call 22; refine HS9.out.mono ?_; clear HS9; rintro e w9 ⟨s2, o2, rfl, hc2, -, hl2, hk2, hb⟩; have hkk := SetK.keys HK1.out hk2 HKL.out; have ho1 : o1.length ≤ 1000000000 := (by have := congrArg List.length hkk; simp at this; omega); have HS10 : Hid (Calls Tryz.prog 21 #[.slice sa o1.length sc, s2] w9 fun e w' => e = .returned (.bool true) ∧ Below w9.heap.size w9 w') := (by have h6 := sameCs_any o1 o2 _ _ w9 (HC1.out.later hb) hc2 (by omega); rw [decide_eq_true hkk] at h6; exact h6); have HV9 : Hid (Below w6.heap.size w6 w9) := below_step HV8.out hb; have HLC9 : Hid (LentC w9 w6.heap.size (.slice (some ⟨g7, 0, none⟩) LB.length cap7) LB) := HLC8.out.later hb; obtain ⟨ta, tc, rfl⟩ := hc2.form; clear hc2 hl2 hk2 hb hkk ho1) | (go_at_call 21; refine HS10.out.mono ?_; clear HS10; rintro e w10 ⟨rfl, hb⟩; have HS11 : Hid (Calls Tryz.prog 15 #[.slice (some ⟨g7, 0, none⟩) LB.length cap7, .slice va l.length vc] w10 fun e w' => e = .returned (.bool true) ∧ Below w10.heap.size w10 w') := keptCs_any l LB _ _ w6.heap.size w10 (HR.out.c.later (below_step HW6.out (below_step HV9.out hb))) HS0.out (HLC9.out.later hb) HKL.out (HBH.out.later (below_step HW6.out (below_step HV9.out hb))) hl; have HV10 : Hid (Below w6.heap.size w6 w10) := below_step HV9.out hb; clear hb) | (go_at_call 15; refine HS11.out.mono ?_; clear HS11; rintro e w11 ⟨rfl, hb⟩; have HV11 : Hid (Below w6.heap.size w6 w11) := below_step HV10.out hb; clear hb))
  have BA : Hid (CBlk w11 w.heap.size #[.int .i64 fk, .int .i64 fm, .string fs, .string fn, .slice f1 f2 f3, .slice f4 f5 f6, .slice f7 f8 f9] 41) := BA.out.later HV11.out
  have BB : Hid (CBlk w11 (w.heap.size + 1) #[.int .i64 jk, .int .i64 jm, .string js, .string jn, .slice j1 j2 j3, .slice j4 j5 j6, .slice j7 j8 j9] 41) := BB.out.later HV11.out
  have BX : Hid (CBlk w11 gx #[.int .i64 xk, .int .i64 xm, .string xs, .string xn, .slice x1 x2 x3, .slice x4 x5 x6, .slice x7 x8 x9] 41) := BX.out.later HV11.out
  have BY : Hid (CBlk w11 gy #[.int .i64 yk, .int .i64 ym, .string ys, .string yn, .slice y1 y2 y3, .slice y4 y5 y6, .slice y7 y8 y9] 41) := BY.out.later HV11.out
  have HW11 : Hid (Below w.heap.size w w11) := below_step HW6.out HV11.out
  obtain ⟨ca0, ca1, ca2, ca3, ca4, ca5, ca6⟩ := cseven BA.out; obtain ⟨cb0, cb1, cb2, cb3, cb4, cb5, cb6⟩ := cseven BB.out; obtain ⟨cx0, cx1, cx2, cx3, cx4, cx5, cx6⟩ := cseven BX.out; obtain ⟨cy0, cy1, cy2, cy3, cy4, cy5, cy6⟩ := cseven BY.out
  go_wp2_with (first | (go_at_call 23; refine (HKA.out w11 ⟨(⟨⟨xk, xm, xs⟩, xn, xl⟩, .slice x1 x2 x3), xb, .slice x4 x5 x6, xt, .slice x7 x8 x9⟩ _ HW11.out (Classical.choose_spec (HX6.out.imp fun B h => Lent.later h HV11.out)) HXK.out).mono ?_; clear HKA; clear ca0 ca1 ca2 ca3 ca4 ca5 ca6 cb0 cb1 cb2 cb3 cb4 cb5 cb6 cx0 cx1 cx2 cx3 cx4 cx5 cx6 cy0 cy1 cy2 cy3 cy4 cy5 cy6; rintro e w12 ⟨rfl, hb⟩; have HV12 : Hid (Below w11.heap.size w11 w12) := hb; have BA : Hid (CBlk w12 w.heap.size #[.int .i64 fk, .int .i64 fm, .string fs, .string fn, .slice f1 f2 f3, .slice f4 f5 f6, .slice f7 f8 f9] 41) := BA.out.later hb; have BB : Hid (CBlk w12 (w.heap.size + 1) #[.int .i64 jk, .int .i64 jm, .string js, .string jn, .slice j1 j2 j3, .slice j4 j5 j6, .slice j7 j8 j9] 41) := BB.out.later hb; have BX : Hid (CBlk w12 gx #[.int .i64 xk, .int .i64 xm, .string xs, .string xn, .slice x1 x2 x3, .slice x4 x5 x6, .slice x7 x8 x9] 41) := BX.out.later hb; have BY : Hid (CBlk w12 gy #[.int .i64 yk, .int .i64 ym, .string ys, .string yn, .slice y1 y2 y3, .slice y4 y5 y6, .slice y7 y8 y9] 41) := BY.out.later hb; clear hb; obtain ⟨ca0, ca1, ca2, ca3, ca4, ca5, ca6⟩ := cseven BA.out; obtain ⟨cb0, cb1, cb2, cb3, cb4, cb5, cb6⟩ := cseven BB.out; obtain ⟨cx0, cx1, cx2, cx3, cx4, cx5, cx6⟩ := cseven BX.out; obtain ⟨cy0, cy1, cy2, cy3, cy4, cy5, cy6⟩ := cseven BY.out) | (go_at_call 23; refine (HKB.out w12 ⟨(⟨⟨yk, ym, ys⟩, yn, yl⟩, .slice y1 y2 y3), yb, .slice y4 y5 y6, yt, .slice y7 y8 y9⟩ _ (below_step HW11.out HV12.out) (Classical.choose_spec (HY6.out.imp fun B h => Lent.later h (below_step HV11.out HV12.out))) HYK.out).mono ?_; clear HKB; clear ca0 ca1 ca2 ca3 ca4 ca5 ca6 cb0 cb1 cb2 cb3 cb4 cb5 cb6 cx0 cx1 cx2 cx3 cx4 cx5 cx6 cy0 cy1 cy2 cy3 cy4 cy5 cy6; rintro e w13 ⟨rfl, hb⟩; have HV13 : Hid (Below w.heap.size w w13) := below_step (below_step HW11.out HV12.out) hb; clear hb) | (go_at_call 16; refine (first3_any _).mono ?_; rintro e w14 ⟨rfl, hb⟩; have HV14 : Hid (Below w.heap.size w w14) := below_step HV13.out hb; clear hb))
  go_ret
  exact ⟨rfl, HV14.out⟩
end Go.Proofs.YtdfgijdededolabGreatDoor
