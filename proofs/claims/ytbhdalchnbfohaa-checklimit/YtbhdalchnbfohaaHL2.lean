/-
  CheckLimit: the walk. (Written by HL2.py.)
-/
import Derived.Test.YtbhdalchnbfohaaHC11
import Derived.Test.YtbhdalchnbfohaaHL1
namespace Go.Proofs.Ytbhdalchnbfohaa
open Go.RowKit
attribute [local go_sem ↓] Go.wp_at_zero Go.wp_at_succ

theorem step_st2 {ops : Array Oper} {o : Oper} {a : Act} {K : Act → World → Prop} {Q : Exit → Act → World → Prop} {E : Prop} {w : World} (hgd : o.guard = none) (s x : Operand)
    (ho : o.op = .call { callee := .builtin .append, args := #[s, x], argTypes := #[23, 23] }) (base : Nat) (v : Value) (l : List St) (hs : a.eval s = v) (hown : OwnS w base v l)
    (b : Nat) (y : St) (hx : a.eval x = .slice (some ⟨b, 0, none⟩) 1 1) (hblk : CBlk w b y.cs 35) (h1c : ∀ u ∈ y.csl, u.oneCell' = true) (hlen : l.length ≤ 1000000000000) (hbase : base ≤ w.heap.size)
    (h : ∀ g cap w', OwnS w' base (.slice (some ⟨g, 0, none⟩) (l.length + 1) cap) (l ++ [y]) → w.grownBy w' v.ownBlock → (v.ownBlock = some g ∨ g = w.heap.size) → K (a.put o.dst (.slice (some ⟨g, 0, none⟩) (l.length + 1) cap)) w') : if Region.wanted o (yielded ops a.tmps) = true then Oper.wp Try.prog o a w K Q else E := by
  obtain ⟨i0, hi0, hz0, hz1, hz2⟩ := info_parts Try.infoStep
  refine step_append_lies _ hgd s x 23 ho base 35 i0 _ 3 56 Try.underlying23 hi0 hz0 hz1 hz2 rfl (by omega) v l.length (scs l) hs hown ⟨b, 0, none⟩ 1 1 (scs [y]) hx (by rw [scs_len]; rfl) ?_ (fun u hu => by obtain ⟨z, hz, hu⟩ := List.mem_flatMap.1 hu; rw [List.mem_singleton] at hz; subst hz; exact h1c u hu) (by omega) (by unfold maxLen; omega) (by omega) hbase _ rfl ?_
  · intro j u hj
    have := World.news_of_block (cs := y.cs) (t := 35) (fr := (0, 0)) hblk j u
    exact this (by simpa [scs, St.csl] using hj)
  · intro g cap w' h1 h2 h3 _
    refine h g cap w' ?_ h2 h3
    unfold OwnS
    rw [List.length_append, scs_app]
    exact h1
theorem OwnS.ssp9 {w : World} {base : Nat} {v : Value} {l : List St} (h : OwnS w base v l) (hok : ∀ c ∈ l, c.ok w) : SsP w v l := by
  refine ⟨?_, hok⟩
  rcases h.2 with ⟨hv, hn⟩ | ⟨g, cap, cur, hv, hb, hg, hn, hc, hs, ht⟩
  · exact Or.inl ⟨hv, List.eq_nil_of_length_eq_zero hn⟩
  · refine Or.inr ⟨⟨g, 0, none⟩, cap, hv, ?_⟩
    cases l with
    | nil => exact Or.inl rfl
    | cons x l =>
      rw [hv] at h
      obtain ⟨b, o, e, hr⟩ := h.adr (j := 0) rfl
      injection e with e
      injection e with e1 e2
      subst e1
      subst e2
      exact Or.inr ⟨g, 0, rfl, hr⟩
/-- How far the steps have been said again. -/
structure LM (w X V : World) (gr gs gf P Q : Nat) (S : List St) (s3 : St) (sg sn sc k : Nat) : Prop where
  sz : X.heap.size ≤ V.heap.size
  ag : ∀ b, b < X.heap.size → b ≠ gs → b ≠ P → V.heap[b]? = X.heap[b]?
  p : CBlk V P #[.slice (some ⟨gr, 0, none⟩) 4 4, .slice (some ⟨sg, 0, none⟩) sn sc] 25
  q : CBlk V Q #[.int .i64 0, .int .i64 0, .string ⟨#[]⟩, .string ⟨#[109, 97, 121]⟩, .slice (some ⟨gf, 0, none⟩) 1 1] 30
  o : OwnS V w.heap.size (.slice (some ⟨sg, 0, none⟩) sn sc) (S ++ List.replicate k s3)
  ob : sg = gs ∨ X.heap.size ≤ sg
  b : Below w.heap.size w V
theorem LM.drew {w X V : World} {gr gs gf P Q : Nat} {S : List St} {s3 : St} {sg sn sc k : Nat} (h : LM w X V gr gs gf P Q S s3 sg sn sc k) : LM w X V.drew gr gs gf P Q S s3 sg sn sc k := ⟨h.sz, h.ag, h.p, h.q, h.o.later (Below.refl _ _).drew, h.ob, h.b.drew⟩
theorem LM.later {w X V V' : World} {gr gs gf P Q : Nat} {S : List St} {s3 : St} {sg sn sc k : Nat} (h : LM w X V gr gs gf P Q S s3 sg sn sc k) (hb : Below V.heap.size V V') : LM w X V' gr gs gf P Q S s3 sg sn sc k :=
  ⟨Nat.le_trans h.sz hb.size, fun b h1 h2 h3 => (hb.block b (Nat.lt_of_lt_of_le h1 h.sz)).trans (h.ag b h1 h2 h3), h.p.later hb, h.q.later hb, h.o.later hb, h.ob, below_step h.b hb⟩
theorem LM.cells {w X V : World} {gr gs gf P Q : Nat} {S : List St} {s3 : St} {sg sn sc k : Nat} (h : LM w X V gr gs gf P Q S s3 sg sn sc k) (h3 : S[3]? = some s3) : V.cell? ⟨sg, 9, none⟩ = some (.int .i64 s3.rule) ∧ V.cell? ⟨sg, 10, none⟩ = some s3.vv ∧ V.cell? ⟨sg, 11, none⟩ = some s3.uv := by
  have e : (S ++ List.replicate k s3)[3]? = some s3 := by rw [List.getElem?_append_left (List.getElem?_eq_some_iff.1 h3).1]; exact h3
  obtain ⟨b, o, e1, hr⟩ := h.o.adr e
  injection e1 with e1
  injection e1 with e2 e3
  subst e2
  subst e3
  simpa using hr.three e
theorem LM.more {w X V V2 : World} {gr gs gf P Q : Nat} {S : List St} {s3 : St} {sg sn sc k g2 c2 : Nat} (h : LM w X V gr gs gf P Q S s3 sg sn sc k) (hn : (S ++ List.replicate k s3).length = sn) (hP : P < X.heap.size) (hQ : Q < X.heap.size) (hPg : P ≠ gs) (hQg : Q ≠ gs) (hPQ : P ≠ Q) (hw : w.heap.size ≤ P)
    (ho : OwnS V2 w.heap.size (.slice (some ⟨g2, 0, none⟩) ((S ++ List.replicate k s3).length + 1) c2) ((S ++ List.replicate k s3) ++ [s3])) (hg : (V.alloc (.cells s3.cs 35)).grownBy V2 (Value.ownBlock (.slice (some ⟨sg, 0, none⟩) sn sc))) (hv : Value.ownBlock (.slice (some ⟨sg, 0, none⟩) sn sc) = some g2 ∨ g2 = (V.alloc (.cells s3.cs 35)).heap.size) :
    LM w X (V2.setCell ⟨P, 1, none⟩ (.slice (some ⟨g2, 0, none⟩) (sn + 1) c2)) gr gs gf P Q S s3 g2 (sn + 1) c2 (k + 1) ∧ CBlk V2 P #[.slice (some ⟨gr, 0, none⟩) 4 4, .slice (some ⟨sg, 0, none⟩) sn sc] 25 := by
  have hA := h.later (below1 V (.cells s3.cs 35))
  have sP : sg ≠ P := fun e => by rcases h.ob with e2 | e2 <;> omega
  have sQ : sg ≠ Q := fun e => by rcases h.ob with e2 | e2 <;> omega
  have pb : CBlk V2 P #[.slice (some ⟨gr, 0, none⟩) 4 4, .slice (some ⟨sg, 0, none⟩) sn sc] 25 := (hg.block P hA.p.lt fun e => by cases e; exact sP rfl).trans hA.p
  have gP : g2 ≠ P := fun e => by
    rcases hv with h1 | h1
    · cases h1; exact sP e
    · have := hA.sz; omega
  have gQ : g2 ≠ Q := fun e => by
    rcases hv with h1 | h1
    · cases h1; exact sQ e
    · have := hA.sz; omega
  have lo : Below w.heap.size (V.alloc (.cells s3.cs 35)) V2 := ⟨hg.os, hg.tape, hg.output, hg.size, fun b hb => hg.block b (Nat.lt_of_lt_of_le hb hA.b.size) fun e => by
    have e2 : b = sg := by simpa [Value.ownBlock] using e
    have := (hA.o.lt sg rfl).1
    omega⟩
  have oth : ∀ b, b ≠ P → (V2.setCell ⟨P, 1, none⟩ (.slice (some ⟨g2, 0, none⟩) (sn + 1) c2)).heap[b]? = V2.heap[b]? := fun b hn => heap_setCell_other _ _ _ _ hn
  refine ⟨⟨?_, ?_, ?_, ?_, ?_, ?_, ?_⟩, pb⟩
  · have := hA.sz; have := hg.size; simp; omega
  · intro b h1 h2 h3
    rw [oth b h3]
    refine (hg.block b (Nat.lt_of_lt_of_le h1 hA.sz) fun e => ?_).trans (hA.ag b h1 h2 h3)
    have e3 : b = sg := by simpa [Value.ownBlock] using e
    rcases h.ob with e2 | e2 <;> omega
  · have := pb.set 1 (.slice (some ⟨g2, 0, none⟩) (sn + 1) c2)
    simpa using this
  · exact (oth Q (fun e => hPQ e.symm)).trans ((hg.block Q hA.q.lt fun e => by cases e; exact sQ rfl).trans hA.q)
  · have e : S ++ List.replicate (k + 1) s3 = (S ++ List.replicate k s3) ++ [s3] := by rw [List.replicate_succ', List.append_assoc]
    rw [e]
    rw [hn] at ho
    unfold OwnS at ho ⊢
    refine ⟨ho.1, ?_⟩
    rcases ho.2 with hn' | ⟨g, cap, cur, hv', hb, hg', rest⟩
    · exact Or.inl hn'
    · exact Or.inr ⟨g, cap, cur, hv', hb, (oth g (by simp only [Value.slice.injEq, Option.some.injEq, Addr.mk.injEq] at hv'; omega)).trans hg', rest⟩
  · rcases hv with h1 | h1
    · cases h1; exact h.ob
    · right; have := hA.sz; omega
  · exact (hA.b.trans lo).setCell (p := ⟨P, 1, none⟩) hw _
/-- All that the walk knows of the example. -/
structure LX (w X : World) (gr gs gf P Q : Nat) (R : List Cm) (S : List St) (s3 : St) : Prop where
  hP : P < X.heap.size
  hQ : Q < X.heap.size
  Pg : P ≠ gs
  Qg : Q ≠ gs
  PQ : P ≠ Q
  wP : w.heap.size ≤ P
  kR : R.map Cm.key = K4
  wR : ∀ c ∈ R, c.wf
  kS : S.map St.key = S4
  h3 : S[3]? = some s3
  oc : ∀ u ∈ s3.csl, u.oneCell' = true
  k : ∀ V : World, X.heap.size ≤ V.heap.size → (∀ b, b < X.heap.size → b ≠ gs → b ≠ P → V.heap[b]? = X.heap[b]?) → CsP V (.slice (some ⟨gr, 0, none⟩) 4 4) R ∧ (∀ s ∈ S, s.ok V) ∧ Ts V (.slice (some ⟨gf, 0, none⟩) 1 1) my4.args
theorem s_len4 {S : List St} (h : S.map St.key = S4) : S.length = 4 := by have := congrArg List.length h; simpa [S4] using this
theorem lx_new {w w1 : World} {gr gs gf : Nat} {R : List Cm} {S : List St} (h2 : R.map Cm.key = K4) (h3 : ∀ c ∈ R, c.wf) (h5 : S.map St.key = S4) (hb : Below w.heap.size w w1) (ho : OwnS w1 w.heap.size (.slice (some ⟨gs, 0, none⟩) 4 4) S)
    (hk : ∀ Y : World, w1.heap.size ≤ Y.heap.size → (∀ b, w.heap.size + 2 ≤ b → b < w1.heap.size → b ≠ gs → Y.heap[b]? = w1.heap[b]?) → CsP Y (.slice (some ⟨gr, 0, none⟩) 4 4) R ∧ (∀ s ∈ S, s.ok Y) ∧ Ts Y (.slice (some ⟨gf, 0, none⟩) 1 1) my4.args) :
    ∃ s3, LX w ((w1.alloc (.cells #[.slice (some ⟨gr, 0, none⟩) 4 4, .slice (some ⟨gs, 0, none⟩) 4 4] 25)).alloc (.cells #[.int .i64 0, .int .i64 0, .string ⟨#[]⟩, .string ⟨#[109, 97, 121]⟩, .slice (some ⟨gf, 0, none⟩) 1 1] 30)) gr gs gf w1.heap.size (w1.heap.size + 1) R S s3 ∧ LM w ((w1.alloc (.cells #[.slice (some ⟨gr, 0, none⟩) 4 4, .slice (some ⟨gs, 0, none⟩) 4 4] 25)).alloc (.cells #[.int .i64 0, .int .i64 0, .string ⟨#[]⟩, .string ⟨#[109, 97, 121]⟩, .slice (some ⟨gf, 0, none⟩) 1 1] 30)) ((w1.alloc (.cells #[.slice (some ⟨gr, 0, none⟩) 4 4, .slice (some ⟨gs, 0, none⟩) 4 4] 25)).alloc (.cells #[.int .i64 0, .int .i64 0, .string ⟨#[]⟩, .string ⟨#[109, 97, 121]⟩, .slice (some ⟨gf, 0, none⟩) 1 1] 30)) gr gs gf w1.heap.size (w1.heap.size + 1) S s3 gs 4 4 0 := by
  have hl : S.length = 4 := by have := congrArg List.length h5; simpa [S4] using this
  obtain ⟨s3, hs3⟩ : ∃ s3, S[3]? = some s3 := ⟨_, List.getElem?_eq_getElem (by omega)⟩
  have gl := (ho.lt gs rfl).2
  have e1 : (w1.alloc (.cells #[.slice (some ⟨gr, 0, none⟩) 4 4, .slice (some ⟨gs, 0, none⟩) 4 4] 25)).heap.size = w1.heap.size + 1 := by simp
  have e2 : ((w1.alloc (.cells #[.slice (some ⟨gr, 0, none⟩) 4 4, .slice (some ⟨gs, 0, none⟩) 4 4] 25)).alloc (.cells #[.int .i64 0, .int .i64 0, .string ⟨#[]⟩, .string ⟨#[109, 97, 121]⟩, .slice (some ⟨gf, 0, none⟩) 1 1] 30)).heap.size = w1.heap.size + 2 := by simp
  have q := CBlk.new (w1.alloc (.cells #[.slice (some ⟨gr, 0, none⟩) 4 4, .slice (some ⟨gs, 0, none⟩) 4 4] 25)) #[.int .i64 0, .int .i64 0, .string ⟨#[]⟩, .string ⟨#[109, 97, 121]⟩, .slice (some ⟨gf, 0, none⟩) 1 1] 30
  rw [e1] at q
  have b1 := below1 w1 (.cells #[.slice (some ⟨gr, 0, none⟩) 4 4, .slice (some ⟨gs, 0, none⟩) 4 4] 25)
  have b2 := below1 (w1.alloc (.cells #[.slice (some ⟨gr, 0, none⟩) 4 4, .slice (some ⟨gs, 0, none⟩) 4 4] 25)) (.cells #[.int .i64 0, .int .i64 0, .string ⟨#[]⟩, .string ⟨#[109, 97, 121]⟩, .slice (some ⟨gf, 0, none⟩) 1 1] 30)
  have b := below_step b1 b2
  have hsz := hb.size
  refine ⟨s3, ⟨by rw [e2]; omega, by rw [e2]; omega, by omega, by omega, by omega, hsz, h2, h3, h5, hs3, ssl_one ((hk w1 (Nat.le_refl _) fun _ _ _ _ => rfl).2.1 s3 (List.mem_of_getElem? hs3)), fun V hs ha => hk V (by rw [e2] at hs; omega) fun x _ h2 h3 => (ha x (by rw [e2]; omega) h3 (by omega)).trans (b.block x h2)⟩, ⟨Nat.le_refl _, fun _ _ _ _ => rfl, (CBlk.new _ _ _).later b2, q, ?_, Or.inl rfl, below_step hb b⟩⟩
  simpa using ho.later b
theorem lim_go {w X V : World} {gr gs gf P Q : Nat} {R : List Cm} {S : List St} {s3 : St} {sg sn sc k : Nat} {l : List Cm} {lv : Value} {r : Int} (hx : LX w X gr gs gf P Q R S s3) (h : LM w X V gr gs gf P Q S s3 sg sn sc k) (hl : CsP V lv l) (hlk : l.map Cm.key = K4) (hk : k ≤ 6000) (hr : cheH K4 K4 (S4 ++ List.replicate k st4) my4 = r) :
    Calls Try.prog 5 #[lv, .agg #[.slice (some ⟨gr, 0, none⟩) 4 4, .slice (some ⟨sg, 0, none⟩) sn sc], .agg #[.int .i64 0, .int .i64 0, .string ⟨#[]⟩, .string ⟨#[109, 97, 121]⟩, .slice (some ⟨gf, 0, none⟩) 1 1]] V fun e w' => e = .returned (.int .i64 r) ∧ Below V.heap.size V w' := by
  obtain ⟨k1, k2, k3⟩ := hx.k V h.sz h.ag
  have hok : ∀ c ∈ S ++ List.replicate k s3, c.ok V := fun c hc => by
    rcases List.mem_append.1 hc with hc | hc
    · exact k2 c hc
    · rw [(List.mem_replicate.1 hc).2]; exact k2 s3 (List.mem_of_getElem? hx.h3)
  have ss := h.o.ssp9 hok
  have e3 : s3.key = st4 := by
    have := congrArg (fun l => l[3]?) hx.kS
    simp only [List.getElem?_map, hx.h3, Option.map_some] at this
    exact (Option.some.inj (this.trans rfl))
  have ek : (S ++ List.replicate k s3).map St.key = S4 ++ List.replicate k st4 := by rw [List.map_append, List.map_replicate, hx.kS, e3]
  have hSl : S.length = 4 := by have := congrArg List.length hx.kS; simpa [S4] using this
  have := check_whole l R _ my4 lv _ _ _ V hl k1 ss k3 hx.wR (by rw [ckey_len4 hlk]; omega) (by rw [ckey_len4 hx.kR]; omega) (by rw [List.length_append, List.length_replicate]; omega)
  rwa [hlk, hx.kR, ek, hr] at this
set_option maxRecDepth 100000 in
set_option maxHeartbeats 2000000 in
theorem limit_any (more : Int) (w : World) : Calls Try.prog 3 #[.int .i64 more] w fun e w' => e = .returned (.bool true) ∧ Below w.heap.size w w' := by
  by_cases hm0 : more > 0
  · have hm1 : (0 : Int) < more := hm0
    clear hm0
    go_enter Try.func3, Try.ntmps3
    go_upto_region 2 with (go_at_call 4; refine (example_any _).mono ?_; rintro e w1 ⟨gr, R, gs, S, gf, rfl, hR, hRk, hRw, hS, hSk, hf, hb, ho, hk⟩; have HN := hm (lx_new hRk hRw hSk hb ho hk); have HSL := hm (s_len4 hSk); clear hR hS hRk hRw hSk hf hb ho hk; simp only [At.v, my4])
    revert HN
    generalize (w1.alloc (.cells #[.slice (some ⟨gr, 0, none⟩) 4 4, .slice (some ⟨gs, 0, none⟩) 4 4] 25)).alloc (.cells #[.int .i64 0, .int .i64 0, .string ⟨#[]⟩, .string ⟨#[109, 97, 121]⟩, .slice (some ⟨gf, 0, none⟩) 1 1] 30) = X
    generalize w1.heap.size + 1 = Q
    generalize w1.heap.size = P
    intro HN
    obtain ⟨s3, hX, hM⟩ := HN.out
    have HX := hm hX
    have HM := hm hM
    have HSH : Hid ((∃ a c, s3.vv = .slice a s3.vals.length c) ∧ ∃ a c, s3.uv = .slice a s3.uses.length c) := by
      obtain ⟨h1, h2, -, -⟩ := ((hX.k X (Nat.le_refl _) fun _ _ _ _ => rfl).2.1 s3 (List.mem_of_getElem? hX.h3)).shape
      exact ⟨h1, h2⟩
    clear HN hX hM
    go_upto_region 5 with fail
    go_loopg [] (5001 - 4) (fun g wr => ∃ k sg sn sc, k + g = 5001 - 4 ∧ sn = k + 4 ∧ LM w X wr gr gs gf P Q S s3 sg sn sc k)
    case atStart => exact ⟨0, gs, 4, 4, by omega, rfl, HM.out⟩
    case round =>
      obtain ⟨k, sg, sn, sc, hk, hsn, hLM⟩ := hrel
      have HI := hm hLM
      have HSN : Hid ((S ++ List.replicate k s3).length = sn) := by show _ = _; rw [List.length_append, List.length_replicate, HSL.out]; omega
      obtain ⟨-, q1⟩ := ctwo hLM.p
      clear hLM
      have HSK := hm hsn
      cases gk with
      | succ g =>
        have hlt : (sn : Int) < 5001 := by omega
        have hlt3 : (3 : Int) < (sn : Int) := by omega
        obtain ⟨s3r, s3l, s3v, s3n, s3u⟩ := s3
        obtain ⟨⟨v1, v2, hv⟩, ⟨u1, u2, hu⟩⟩ := HSH.out
        simp only at hv hu
        subst hv
        subst hu
        have HKK := hm hk
        clear hk hsn
        go_upto_region 6 with fail
        refine wp_region_held_drew (S := fun _ => True) (by kernel_rfl) trivial (fun _ => ?_)
        have HU := hm HI.out.drew
        clear HI
        revert HU
        generalize wr.drew = U0
        intro HU
        refine wpAnyH_take (i := 0) (oi := ⟨_, _, _, _, _, _⟩) (v := .pointer (some ⟨P, 1, none⟩)) rfl (by kernel_rfl) (by kernel_rfl) (by kernel_rfl) (fun _ _ _ h => h) (Or.inl ⟨by rfl, fun w' h => by clear h; go_simp⟩) trivial ?_
        simp only [Act.put, List.setIfInBounds_toArray, List.set_cons_zero, List.set_cons_succ]
        refine wpAnyH_take (i := 2) (oi := ⟨_, _, _, _, _, _⟩) (v := .pointer (some ⟨P, 1, none⟩)) rfl (by kernel_rfl) (by kernel_rfl) (by kernel_rfl) (fun _ _ _ h => h) (Or.inl ⟨by rfl, fun w' h => by clear h; go_simp⟩) trivial ?_
        simp only [Act.put, List.setIfInBounds_toArray, List.set_cons_zero, List.set_cons_succ]
        refine wpAnyH_ready (rs := [1, 3]) (by kernel_rfl) (by simp) ?_
        refine (AllReadyH.cons (o := ⟨_, _, _, _, _, _⟩) rfl (fun K hK => ?_) (AllReadyH.cons (o := ⟨_, _, _, _, _, _⟩) rfl (fun K hK => ?_) AllReadyH.nil))
        · obtain ⟨-, q1⟩ := ctwo HU.out.p
          go_simp
          clear q1
          refine hK.out _ _ trivial (fun _ => ?_)
          clear hK K
          try simp only [Act.put, List.setIfInBounds_toArray, List.set_cons_zero, List.set_cons_succ]
          refine wpAnyH_ready (rs := [3]) (by kernel_rfl) (by simp) ?_
          refine (AllReadyH.cons (o := ⟨_, _, _, _, _, _⟩) rfl (fun K hK => ?_) AllReadyH.nil)
          obtain ⟨-, q1⟩ := ctwo HU.out.p
          go_simp
          clear q1
          refine hK.out _ _ trivial (fun _ => ?_)
          clear hK K
          try simp only [Act.put, List.setIfInBounds_toArray, List.set_cons_zero, List.set_cons_succ]
          refine wpAnyH_take (i := 4) (oi := ⟨_, _, _, _, _, _⟩) (v := .pointer (some ⟨sg, 9, none⟩)) rfl (by kernel_rfl) (by kernel_rfl) (by kernel_rfl) (fun _ _ _ h => h) (Or.inl ⟨by rfl, fun w' h => by clear h; go_simp⟩) trivial ?_
          simp only [Act.put, List.setIfInBounds_toArray, List.set_cons_zero, List.set_cons_succ]
          refine wpAnyH_ready (rs := [5]) (by kernel_rfl) (by simp) ?_
          refine (AllReadyH.cons (o := ⟨_, _, _, _, _, _⟩) rfl (fun K hK => ?_) AllReadyH.nil)
          obtain ⟨c9, c10, c11⟩ := HU.out.cells HX.out.h3
          go_simp
          clear c9 c10 c11
          refine hK.out _ _ trivial (fun _ => ?_)
          clear hK K
          try simp only [Act.put, List.setIfInBounds_toArray, List.set_cons_zero, List.set_cons_succ]
          refine wpAnyH_ready (rs := [6]) (by kernel_rfl) (by simp) ?_
          refine (AllReadyH.cons (o := ⟨_, _, _, _, _, _⟩) rfl (fun K hK => ?_) AllReadyH.nil)
          go_simp
          refine hK.out _ _ trivial (fun _ => ?_)
          clear hK K
          try simp only [Act.put, List.setIfInBounds_toArray, List.set_cons_zero, List.set_cons_succ]
          refine wpAnyH_ready (rs := [7]) (by kernel_rfl) (by simp) ?_
          refine (AllReadyH.cons (o := ⟨_, _, _, _, _, _⟩) rfl (fun K hK => ?_) AllReadyH.nil)
          refine step_st2 rfl _ _ rfl w.heap.size (.slice (some ⟨sg, 0, none⟩) sn sc) (S ++ List.replicate k ⟨s3r, s3l, .slice v1 s3l.length v2, s3n, .slice u1 s3n.length u2⟩) (by rfl) (HU.out.o.later (below1 _ _)) U0.heap.size ⟨s3r, s3l, .slice v1 s3l.length v2, s3n, .slice u1 s3n.length u2⟩ (by rfl) (CBlk.new _ _ _) HX.out.oc (by rw [HSN.out]; omega) (Nat.le_trans HU.out.b.size (by simp)) ?_
          intro g2 c2 U2 ho2 hg2 hv2
          obtain ⟨hLM, hPB⟩ := HU.out.more HSN.out HX.out.hP HX.out.hQ HX.out.Pg HX.out.Qg HX.out.PQ HX.out.wP ho2 hg2 hv2
          rw [HSN.out]
          have HLM := hm hLM
          have HPB := hm hPB
          clear ho2 hg2 hv2 hLM hPB
          refine hK.out _ _ trivial (fun _ => ?_)
          clear hK K
          try simp only [Act.put, List.setIfInBounds_toArray, List.set_cons_zero, List.set_cons_succ]
          refine wpAnyH_take (i := 8) (oi := ⟨_, _, _, _, _, _⟩) (v := .pointer (some ⟨P, 1, none⟩)) rfl (by kernel_rfl) (by kernel_rfl) (by kernel_rfl) (fun _ _ _ h => h) (Or.inl ⟨by rfl, fun w' h => by clear h; go_simp⟩) trivial ?_
          simp only [Act.put, List.setIfInBounds_toArray, List.set_cons_zero, List.set_cons_succ]
          refine wpAnyH_ready (rs := [9]) (by kernel_rfl) (by simp) ?_
          refine (AllReadyH.cons (o := ⟨_, _, _, _, _, _⟩) rfl (fun K hK => ?_) AllReadyH.nil)
          obtain ⟨-, q1⟩ := ctwo HPB.out
          have z1 : U2.frozen? ⟨P, 1, none⟩ = false := HPB.out.froz
          go_simp
          clear q1 z1
          refine hK.out _ _ trivial (fun _ => ?_)
          clear hK K
          try simp only [Act.put, List.setIfInBounds_toArray, List.set_cons_zero, List.set_cons_succ]
          refine wpAnyH_done (by kernel_rfl) ?_ _
          go_wp2
          go_roundg g
          case measure => omega
          case rel => exact ⟨k + 1, g2, sn + 1, c2, by have := HKK.out; omega, by have := HSK.out; omega, HLM.out⟩
        · obtain ⟨-, q1⟩ := ctwo HU.out.p
          go_simp
          clear q1
          refine hK.out _ _ trivial (fun _ => ?_)
          clear hK K
          try simp only [Act.put, List.setIfInBounds_toArray, List.set_cons_zero, List.set_cons_succ]
          refine wpAnyH_take (i := 4) (oi := ⟨_, _, _, _, _, _⟩) (v := .pointer (some ⟨sg, 9, none⟩)) rfl (by kernel_rfl) (by kernel_rfl) (by kernel_rfl) (fun _ _ _ h => h) (Or.inl ⟨by rfl, fun w' h => by clear h; go_simp⟩) trivial ?_
          simp only [Act.put, List.setIfInBounds_toArray, List.set_cons_zero, List.set_cons_succ]
          refine wpAnyH_ready (rs := [1, 5]) (by kernel_rfl) (by simp) ?_
          refine (AllReadyH.cons (o := ⟨_, _, _, _, _, _⟩) rfl (fun K hK => ?_) (AllReadyH.cons (o := ⟨_, _, _, _, _, _⟩) rfl (fun K hK => ?_) AllReadyH.nil))
          · obtain ⟨-, q1⟩ := ctwo HU.out.p
            go_simp
            clear q1
            refine hK.out _ _ trivial (fun _ => ?_)
            clear hK K
            try simp only [Act.put, List.setIfInBounds_toArray, List.set_cons_zero, List.set_cons_succ]
            refine wpAnyH_ready (rs := [5]) (by kernel_rfl) (by simp) ?_
            refine (AllReadyH.cons (o := ⟨_, _, _, _, _, _⟩) rfl (fun K hK => ?_) AllReadyH.nil)
            obtain ⟨c9, c10, c11⟩ := HU.out.cells HX.out.h3
            go_simp
            clear c9 c10 c11
            refine hK.out _ _ trivial (fun _ => ?_)
            clear hK K
            try simp only [Act.put, List.setIfInBounds_toArray, List.set_cons_zero, List.set_cons_succ]
            refine wpAnyH_ready (rs := [6]) (by kernel_rfl) (by simp) ?_
            refine (AllReadyH.cons (o := ⟨_, _, _, _, _, _⟩) rfl (fun K hK => ?_) AllReadyH.nil)
            go_simp
            refine hK.out _ _ trivial (fun _ => ?_)
            clear hK K
            try simp only [Act.put, List.setIfInBounds_toArray, List.set_cons_zero, List.set_cons_succ]
            refine wpAnyH_ready (rs := [7]) (by kernel_rfl) (by simp) ?_
            refine (AllReadyH.cons (o := ⟨_, _, _, _, _, _⟩) rfl (fun K hK => ?_) AllReadyH.nil)
            refine step_st2 rfl _ _ rfl w.heap.size (.slice (some ⟨sg, 0, none⟩) sn sc) (S ++ List.replicate k ⟨s3r, s3l, .slice v1 s3l.length v2, s3n, .slice u1 s3n.length u2⟩) (by rfl) (HU.out.o.later (below1 _ _)) U0.heap.size ⟨s3r, s3l, .slice v1 s3l.length v2, s3n, .slice u1 s3n.length u2⟩ (by rfl) (CBlk.new _ _ _) HX.out.oc (by rw [HSN.out]; omega) (Nat.le_trans HU.out.b.size (by simp)) ?_
            intro g2 c2 U2 ho2 hg2 hv2
            obtain ⟨hLM, hPB⟩ := HU.out.more HSN.out HX.out.hP HX.out.hQ HX.out.Pg HX.out.Qg HX.out.PQ HX.out.wP ho2 hg2 hv2
            rw [HSN.out]
            have HLM := hm hLM
            have HPB := hm hPB
            clear ho2 hg2 hv2 hLM hPB
            refine hK.out _ _ trivial (fun _ => ?_)
            clear hK K
            try simp only [Act.put, List.setIfInBounds_toArray, List.set_cons_zero, List.set_cons_succ]
            refine wpAnyH_take (i := 8) (oi := ⟨_, _, _, _, _, _⟩) (v := .pointer (some ⟨P, 1, none⟩)) rfl (by kernel_rfl) (by kernel_rfl) (by kernel_rfl) (fun _ _ _ h => h) (Or.inl ⟨by rfl, fun w' h => by clear h; go_simp⟩) trivial ?_
            simp only [Act.put, List.setIfInBounds_toArray, List.set_cons_zero, List.set_cons_succ]
            refine wpAnyH_ready (rs := [9]) (by kernel_rfl) (by simp) ?_
            refine (AllReadyH.cons (o := ⟨_, _, _, _, _, _⟩) rfl (fun K hK => ?_) AllReadyH.nil)
            obtain ⟨-, q1⟩ := ctwo HPB.out
            have z1 : U2.frozen? ⟨P, 1, none⟩ = false := HPB.out.froz
            go_simp
            clear q1 z1
            refine hK.out _ _ trivial (fun _ => ?_)
            clear hK K
            try simp only [Act.put, List.setIfInBounds_toArray, List.set_cons_zero, List.set_cons_succ]
            refine wpAnyH_done (by kernel_rfl) ?_ _
            go_wp2
            go_roundg g
            case measure => omega
            case rel => exact ⟨k + 1, g2, sn + 1, c2, by have := HKK.out; omega, by have := HSK.out; omega, HLM.out⟩
          · obtain ⟨c9, c10, c11⟩ := HU.out.cells HX.out.h3
            go_simp
            clear c9 c10 c11
            refine hK.out _ _ trivial (fun _ => ?_)
            clear hK K
            try simp only [Act.put, List.setIfInBounds_toArray, List.set_cons_zero, List.set_cons_succ]
            refine wpAnyH_ready (rs := [1, 6]) (by kernel_rfl) (by simp) ?_
            refine (AllReadyH.cons (o := ⟨_, _, _, _, _, _⟩) rfl (fun K hK => ?_) (AllReadyH.cons (o := ⟨_, _, _, _, _, _⟩) rfl (fun K hK => ?_) AllReadyH.nil))
            · obtain ⟨-, q1⟩ := ctwo HU.out.p
              go_simp
              clear q1
              refine hK.out _ _ trivial (fun _ => ?_)
              clear hK K
              try simp only [Act.put, List.setIfInBounds_toArray, List.set_cons_zero, List.set_cons_succ]
              refine wpAnyH_ready (rs := [6]) (by kernel_rfl) (by simp) ?_
              refine (AllReadyH.cons (o := ⟨_, _, _, _, _, _⟩) rfl (fun K hK => ?_) AllReadyH.nil)
              go_simp
              refine hK.out _ _ trivial (fun _ => ?_)
              clear hK K
              try simp only [Act.put, List.setIfInBounds_toArray, List.set_cons_zero, List.set_cons_succ]
              refine wpAnyH_ready (rs := [7]) (by kernel_rfl) (by simp) ?_
              refine (AllReadyH.cons (o := ⟨_, _, _, _, _, _⟩) rfl (fun K hK => ?_) AllReadyH.nil)
              refine step_st2 rfl _ _ rfl w.heap.size (.slice (some ⟨sg, 0, none⟩) sn sc) (S ++ List.replicate k ⟨s3r, s3l, .slice v1 s3l.length v2, s3n, .slice u1 s3n.length u2⟩) (by rfl) (HU.out.o.later (below1 _ _)) U0.heap.size ⟨s3r, s3l, .slice v1 s3l.length v2, s3n, .slice u1 s3n.length u2⟩ (by rfl) (CBlk.new _ _ _) HX.out.oc (by rw [HSN.out]; omega) (Nat.le_trans HU.out.b.size (by simp)) ?_
              intro g2 c2 U2 ho2 hg2 hv2
              obtain ⟨hLM, hPB⟩ := HU.out.more HSN.out HX.out.hP HX.out.hQ HX.out.Pg HX.out.Qg HX.out.PQ HX.out.wP ho2 hg2 hv2
              rw [HSN.out]
              have HLM := hm hLM
              have HPB := hm hPB
              clear ho2 hg2 hv2 hLM hPB
              refine hK.out _ _ trivial (fun _ => ?_)
              clear hK K
              try simp only [Act.put, List.setIfInBounds_toArray, List.set_cons_zero, List.set_cons_succ]
              refine wpAnyH_take (i := 8) (oi := ⟨_, _, _, _, _, _⟩) (v := .pointer (some ⟨P, 1, none⟩)) rfl (by kernel_rfl) (by kernel_rfl) (by kernel_rfl) (fun _ _ _ h => h) (Or.inl ⟨by rfl, fun w' h => by clear h; go_simp⟩) trivial ?_
              simp only [Act.put, List.setIfInBounds_toArray, List.set_cons_zero, List.set_cons_succ]
              refine wpAnyH_ready (rs := [9]) (by kernel_rfl) (by simp) ?_
              refine (AllReadyH.cons (o := ⟨_, _, _, _, _, _⟩) rfl (fun K hK => ?_) AllReadyH.nil)
              obtain ⟨-, q1⟩ := ctwo HPB.out
              have z1 : U2.frozen? ⟨P, 1, none⟩ = false := HPB.out.froz
              go_simp
              clear q1 z1
              refine hK.out _ _ trivial (fun _ => ?_)
              clear hK K
              try simp only [Act.put, List.setIfInBounds_toArray, List.set_cons_zero, List.set_cons_succ]
              refine wpAnyH_done (by kernel_rfl) ?_ _
              go_wp2
              go_roundg g
              case measure => omega
              case rel => exact ⟨k + 1, g2, sn + 1, c2, by have := HKK.out; omega, by have := HSK.out; omega, HLM.out⟩
            · go_simp
              refine hK.out _ _ trivial (fun _ => ?_)
              clear hK K
              try simp only [Act.put, List.setIfInBounds_toArray, List.set_cons_zero, List.set_cons_succ]
              refine wpAnyH_ready (rs := [1]) (by kernel_rfl) (by simp) ?_
              refine (AllReadyH.cons (o := ⟨_, _, _, _, _, _⟩) rfl (fun K hK => ?_) AllReadyH.nil)
              obtain ⟨-, q1⟩ := ctwo (HU.out.p.later (below1 U0 (.cells #[.int .i64 s3r, .slice v1 s3l.length v2, .slice u1 s3n.length u2] 35)))
              go_simp
              clear q1
              refine hK.out _ _ trivial (fun _ => ?_)
              clear hK K
              try simp only [Act.put, List.setIfInBounds_toArray, List.set_cons_zero, List.set_cons_succ]
              refine wpAnyH_ready (rs := [7]) (by kernel_rfl) (by simp) ?_
              refine (AllReadyH.cons (o := ⟨_, _, _, _, _, _⟩) rfl (fun K hK => ?_) AllReadyH.nil)
              refine step_st2 rfl _ _ rfl w.heap.size (.slice (some ⟨sg, 0, none⟩) sn sc) (S ++ List.replicate k ⟨s3r, s3l, .slice v1 s3l.length v2, s3n, .slice u1 s3n.length u2⟩) (by rfl) (HU.out.o.later (below1 _ _)) U0.heap.size ⟨s3r, s3l, .slice v1 s3l.length v2, s3n, .slice u1 s3n.length u2⟩ (by rfl) (CBlk.new _ _ _) HX.out.oc (by rw [HSN.out]; omega) (Nat.le_trans HU.out.b.size (by simp)) ?_
              intro g2 c2 U2 ho2 hg2 hv2
              obtain ⟨hLM, hPB⟩ := HU.out.more HSN.out HX.out.hP HX.out.hQ HX.out.Pg HX.out.Qg HX.out.PQ HX.out.wP ho2 hg2 hv2
              rw [HSN.out]
              have HLM := hm hLM
              have HPB := hm hPB
              clear ho2 hg2 hv2 hLM hPB
              refine hK.out _ _ trivial (fun _ => ?_)
              clear hK K
              try simp only [Act.put, List.setIfInBounds_toArray, List.set_cons_zero, List.set_cons_succ]
              refine wpAnyH_take (i := 8) (oi := ⟨_, _, _, _, _, _⟩) (v := .pointer (some ⟨P, 1, none⟩)) rfl (by kernel_rfl) (by kernel_rfl) (by kernel_rfl) (fun _ _ _ h => h) (Or.inl ⟨by rfl, fun w' h => by clear h; go_simp⟩) trivial ?_
              simp only [Act.put, List.setIfInBounds_toArray, List.set_cons_zero, List.set_cons_succ]
              refine wpAnyH_ready (rs := [9]) (by kernel_rfl) (by simp) ?_
              refine (AllReadyH.cons (o := ⟨_, _, _, _, _, _⟩) rfl (fun K hK => ?_) AllReadyH.nil)
              obtain ⟨-, q1⟩ := ctwo HPB.out
              have z1 : U2.frozen? ⟨P, 1, none⟩ = false := HPB.out.froz
              go_simp
              clear q1 z1
              refine hK.out _ _ trivial (fun _ => ?_)
              clear hK K
              try simp only [Act.put, List.setIfInBounds_toArray, List.set_cons_zero, List.set_cons_succ]
              refine wpAnyH_done (by kernel_rfl) ?_ _
              go_wp2
              go_roundg g
              case measure => omega
              case rel => exact ⟨k + 1, g2, sn + 1, c2, by have := HKK.out; omega, by have := HSK.out; omega, HLM.out⟩
      | zero =>
        have hlt : ¬ (sn : Int) < 5001 := by omega
        have HCH : Hid (cheH K4 K4 (S4 ++ List.replicate k st4) my4 = 121) := che_over (by omega)
        have HK6 : Hid (k ≤ 6000) := by show _ ≤ _; omega
        clear hk hsn
        go_upto_region 8 with fail
        clear q1
        have HU := hm HI.out.drew
        clear HI
        refine wp_region_held_drew (S := fun w' => LM w X w' gr gs gf P Q S s3 sg sn sc k) (by kernel_rfl) HU.out (fun hH => ?_)
        clear HU
        revert hH
        generalize wr.drew = U0
        intro hH
        refine wpAnyH_take (i := 1) (oi := ⟨_, _, _, _, _, _⟩) (v := .agg #[.slice (some ⟨gr, 0, none⟩) 4 4, .slice (some ⟨sg, 0, none⟩) sn sc]) rfl (by kernel_rfl) (by kernel_rfl) (by kernel_rfl) (fun _ _ _ h => h) (Or.inl ⟨by rfl, fun w' h => by obtain ⟨q0, q1⟩ := ctwo h.p; clear h; go_simp⟩) hH ?_
        simp only [Act.put, List.setIfInBounds_toArray, List.set_cons_zero, List.set_cons_succ]
        refine wpAnyH_take (i := 2) (oi := ⟨_, _, _, _, _, _⟩) (v := .agg #[.int .i64 0, .int .i64 0, .string ⟨#[]⟩, .string ⟨#[109, 97, 121]⟩, .slice (some ⟨gf, 0, none⟩) 1 1]) rfl (by kernel_rfl) (by kernel_rfl) (by kernel_rfl) (fun _ _ _ h => h) (Or.inl ⟨by rfl, fun w' h => by obtain ⟨q0, q1, q2, q3, q4⟩ := cfive h.q; clear h; go_simp⟩) hH ?_
        simp only [Act.put, List.setIfInBounds_toArray, List.set_cons_zero, List.set_cons_succ]
        refine wpAnyH_ready (rs := [0]) (by kernel_rfl) (by simp) ?_
        refine (AllReadyH.cons (o := ⟨_, _, _, _, _, _⟩) rfl (fun K hK => ?_) AllReadyH.nil)
        go_simp
        refine (four_any _).mono ?_
        rintro e U1 ⟨g1, l1, rfl, hk, -, hky, hb⟩
        have HC1 := hm (hk _ (Nat.le_refl _) (fun _ _ _ => rfl))
        have HK1 := hm hky
        refine hK.out _ _ (hH.later hb) (fun hH => ?_)
        clear hK K hb hk hky
        try simp only [Act.put, List.setIfInBounds_toArray, List.set_cons_zero, List.set_cons_succ]
        refine wpAnyH_ready (rs := [3]) (by kernel_rfl) (by simp) ?_
        refine (AllReadyH.cons (o := ⟨_, _, _, _, _, _⟩) rfl (fun K hK => ?_) AllReadyH.nil)
        go_simp
        refine (lim_go HX.out hH HC1.out HK1.out HK6.out HCH.out).mono ?_
        rintro e U2 ⟨rfl, hb⟩
        refine hK.out _ _ (hH.later hb) (fun hH => ?_)
        clear hK K hb
        try simp only [Act.put, List.setIfInBounds_toArray, List.set_cons_zero, List.set_cons_succ]
        refine wpAnyH_take (i := 4) (oi := ⟨_, _, _, _, _, _⟩) (v := .bool true) rfl (by kernel_rfl) (by kernel_rfl) (by kernel_rfl) (fun _ _ _ h => h) (Or.inl ⟨by rfl, fun w' h => by clear h; go_simp⟩) hH ?_
        simp only [Act.put, List.setIfInBounds_toArray, List.set_cons_zero, List.set_cons_succ]
        refine wpAnyH_take (i := 5) (oi := ⟨_, _, _, _, _, _⟩) (v := .bool true) rfl (by kernel_rfl) (by kernel_rfl) (by kernel_rfl) (fun _ _ _ h => h) (Or.inl ⟨by rfl, fun w' h => by clear h; go_simp⟩) hH ?_
        simp only [Act.put, List.setIfInBounds_toArray, List.set_cons_zero, List.set_cons_succ]
        refine wpAnyH_ready (rs := [6]) (by kernel_rfl) (by simp) ?_
        refine (AllReadyH.cons (o := ⟨_, _, _, _, _, _⟩) rfl (fun K hK => ?_) AllReadyH.nil)
        go_simp
        refine (first12_any _).mono ?_
        rintro e U3 ⟨rfl, hb⟩
        refine hK.out _ _ (hH.later hb) (fun hH => ?_)
        clear hK K hb
        try simp only [Act.put, List.setIfInBounds_toArray, List.set_cons_zero, List.set_cons_succ]
        refine wpAnyH_take (i := 7) (oi := ⟨_, _, _, _, _, _⟩) (v := .bool true) rfl (by kernel_rfl) (by kernel_rfl) (by kernel_rfl) (fun _ _ _ h => h) (Or.inl ⟨by rfl, fun w' h => by clear h; go_simp⟩) hH ?_
        simp only [Act.put, List.setIfInBounds_toArray, List.set_cons_zero, List.set_cons_succ]
        refine wpAnyH_take (i := 8) (oi := ⟨_, _, _, _, _, _⟩) (v := .bool true) rfl (by kernel_rfl) (by kernel_rfl) (by kernel_rfl) (fun _ _ _ h => h) (Or.inl ⟨by rfl, fun w' h => by clear h; go_simp⟩) hH ?_
        simp only [Act.put, List.setIfInBounds_toArray, List.set_cons_zero, List.set_cons_succ]
        refine wpAnyH_done (by kernel_rfl) ?_ _
        go_wp2
        go_ret
        exact ⟨rfl, hH.b⟩
  · have hm1 : ¬ (0 : Int) < more := hm0
    clear hm0
    go_enter Try.func3, Try.ntmps3
    go_upto_region 2 with (go_at_call 4; refine (example_any _).mono ?_; rintro e w1 ⟨gr, R, gs, S, gf, rfl, hR, hRk, hRw, hS, hSk, hf, hb, ho, hk⟩; have HN := hm (lx_new hRk hRw hSk hb ho hk); have HSL := hm (s_len4 hSk); clear hR hS hRk hRw hSk hf hb ho hk; simp only [At.v, my4])
    revert HN
    generalize (w1.alloc (.cells #[.slice (some ⟨gr, 0, none⟩) 4 4, .slice (some ⟨gs, 0, none⟩) 4 4] 25)).alloc (.cells #[.int .i64 0, .int .i64 0, .string ⟨#[]⟩, .string ⟨#[109, 97, 121]⟩, .slice (some ⟨gf, 0, none⟩) 1 1] 30) = X
    generalize w1.heap.size + 1 = Q
    generalize w1.heap.size = P
    intro HN
    obtain ⟨s3, hX, hM⟩ := HN.out
    have HX := hm hX
    have HM := hm hM
    have HSH : Hid ((∃ a c, s3.vv = .slice a s3.vals.length c) ∧ ∃ a c, s3.uv = .slice a s3.uses.length c) := by
      obtain ⟨h1, h2, -, -⟩ := ((hX.k X (Nat.le_refl _) fun _ _ _ _ => rfl).2.1 s3 (List.mem_of_getElem? hX.h3)).shape
      exact ⟨h1, h2⟩
    clear HN hX hM
    go_upto_region 5 with fail
    go_loopg [] (5000 - 4) (fun g wr => ∃ k sg sn sc, k + g = 5000 - 4 ∧ sn = k + 4 ∧ LM w X wr gr gs gf P Q S s3 sg sn sc k)
    case atStart => exact ⟨0, gs, 4, 4, by omega, rfl, HM.out⟩
    case round =>
      obtain ⟨k, sg, sn, sc, hk, hsn, hLM⟩ := hrel
      have HI := hm hLM
      have HSN : Hid ((S ++ List.replicate k s3).length = sn) := by show _ = _; rw [List.length_append, List.length_replicate, HSL.out]; omega
      obtain ⟨-, q1⟩ := ctwo hLM.p
      clear hLM
      have HSK := hm hsn
      cases gk with
      | succ g =>
        have hlt : (sn : Int) < 5000 := by omega
        have hlt3 : (3 : Int) < (sn : Int) := by omega
        obtain ⟨s3r, s3l, s3v, s3n, s3u⟩ := s3
        obtain ⟨⟨v1, v2, hv⟩, ⟨u1, u2, hu⟩⟩ := HSH.out
        simp only at hv hu
        subst hv
        subst hu
        have HKK := hm hk
        clear hk hsn
        go_upto_region 6 with fail
        refine wp_region_held_drew (S := fun _ => True) (by kernel_rfl) trivial (fun _ => ?_)
        have HU := hm HI.out.drew
        clear HI
        revert HU
        generalize wr.drew = U0
        intro HU
        refine wpAnyH_take (i := 0) (oi := ⟨_, _, _, _, _, _⟩) (v := .pointer (some ⟨P, 1, none⟩)) rfl (by kernel_rfl) (by kernel_rfl) (by kernel_rfl) (fun _ _ _ h => h) (Or.inl ⟨by rfl, fun w' h => by clear h; go_simp⟩) trivial ?_
        simp only [Act.put, List.setIfInBounds_toArray, List.set_cons_zero, List.set_cons_succ]
        refine wpAnyH_take (i := 2) (oi := ⟨_, _, _, _, _, _⟩) (v := .pointer (some ⟨P, 1, none⟩)) rfl (by kernel_rfl) (by kernel_rfl) (by kernel_rfl) (fun _ _ _ h => h) (Or.inl ⟨by rfl, fun w' h => by clear h; go_simp⟩) trivial ?_
        simp only [Act.put, List.setIfInBounds_toArray, List.set_cons_zero, List.set_cons_succ]
        refine wpAnyH_ready (rs := [1, 3]) (by kernel_rfl) (by simp) ?_
        refine (AllReadyH.cons (o := ⟨_, _, _, _, _, _⟩) rfl (fun K hK => ?_) (AllReadyH.cons (o := ⟨_, _, _, _, _, _⟩) rfl (fun K hK => ?_) AllReadyH.nil))
        · obtain ⟨-, q1⟩ := ctwo HU.out.p
          go_simp
          clear q1
          refine hK.out _ _ trivial (fun _ => ?_)
          clear hK K
          try simp only [Act.put, List.setIfInBounds_toArray, List.set_cons_zero, List.set_cons_succ]
          refine wpAnyH_ready (rs := [3]) (by kernel_rfl) (by simp) ?_
          refine (AllReadyH.cons (o := ⟨_, _, _, _, _, _⟩) rfl (fun K hK => ?_) AllReadyH.nil)
          obtain ⟨-, q1⟩ := ctwo HU.out.p
          go_simp
          clear q1
          refine hK.out _ _ trivial (fun _ => ?_)
          clear hK K
          try simp only [Act.put, List.setIfInBounds_toArray, List.set_cons_zero, List.set_cons_succ]
          refine wpAnyH_take (i := 4) (oi := ⟨_, _, _, _, _, _⟩) (v := .pointer (some ⟨sg, 9, none⟩)) rfl (by kernel_rfl) (by kernel_rfl) (by kernel_rfl) (fun _ _ _ h => h) (Or.inl ⟨by rfl, fun w' h => by clear h; go_simp⟩) trivial ?_
          simp only [Act.put, List.setIfInBounds_toArray, List.set_cons_zero, List.set_cons_succ]
          refine wpAnyH_ready (rs := [5]) (by kernel_rfl) (by simp) ?_
          refine (AllReadyH.cons (o := ⟨_, _, _, _, _, _⟩) rfl (fun K hK => ?_) AllReadyH.nil)
          obtain ⟨c9, c10, c11⟩ := HU.out.cells HX.out.h3
          go_simp
          clear c9 c10 c11
          refine hK.out _ _ trivial (fun _ => ?_)
          clear hK K
          try simp only [Act.put, List.setIfInBounds_toArray, List.set_cons_zero, List.set_cons_succ]
          refine wpAnyH_ready (rs := [6]) (by kernel_rfl) (by simp) ?_
          refine (AllReadyH.cons (o := ⟨_, _, _, _, _, _⟩) rfl (fun K hK => ?_) AllReadyH.nil)
          go_simp
          refine hK.out _ _ trivial (fun _ => ?_)
          clear hK K
          try simp only [Act.put, List.setIfInBounds_toArray, List.set_cons_zero, List.set_cons_succ]
          refine wpAnyH_ready (rs := [7]) (by kernel_rfl) (by simp) ?_
          refine (AllReadyH.cons (o := ⟨_, _, _, _, _, _⟩) rfl (fun K hK => ?_) AllReadyH.nil)
          refine step_st2 rfl _ _ rfl w.heap.size (.slice (some ⟨sg, 0, none⟩) sn sc) (S ++ List.replicate k ⟨s3r, s3l, .slice v1 s3l.length v2, s3n, .slice u1 s3n.length u2⟩) (by rfl) (HU.out.o.later (below1 _ _)) U0.heap.size ⟨s3r, s3l, .slice v1 s3l.length v2, s3n, .slice u1 s3n.length u2⟩ (by rfl) (CBlk.new _ _ _) HX.out.oc (by rw [HSN.out]; omega) (Nat.le_trans HU.out.b.size (by simp)) ?_
          intro g2 c2 U2 ho2 hg2 hv2
          obtain ⟨hLM, hPB⟩ := HU.out.more HSN.out HX.out.hP HX.out.hQ HX.out.Pg HX.out.Qg HX.out.PQ HX.out.wP ho2 hg2 hv2
          rw [HSN.out]
          have HLM := hm hLM
          have HPB := hm hPB
          clear ho2 hg2 hv2 hLM hPB
          refine hK.out _ _ trivial (fun _ => ?_)
          clear hK K
          try simp only [Act.put, List.setIfInBounds_toArray, List.set_cons_zero, List.set_cons_succ]
          refine wpAnyH_take (i := 8) (oi := ⟨_, _, _, _, _, _⟩) (v := .pointer (some ⟨P, 1, none⟩)) rfl (by kernel_rfl) (by kernel_rfl) (by kernel_rfl) (fun _ _ _ h => h) (Or.inl ⟨by rfl, fun w' h => by clear h; go_simp⟩) trivial ?_
          simp only [Act.put, List.setIfInBounds_toArray, List.set_cons_zero, List.set_cons_succ]
          refine wpAnyH_ready (rs := [9]) (by kernel_rfl) (by simp) ?_
          refine (AllReadyH.cons (o := ⟨_, _, _, _, _, _⟩) rfl (fun K hK => ?_) AllReadyH.nil)
          obtain ⟨-, q1⟩ := ctwo HPB.out
          have z1 : U2.frozen? ⟨P, 1, none⟩ = false := HPB.out.froz
          go_simp
          clear q1 z1
          refine hK.out _ _ trivial (fun _ => ?_)
          clear hK K
          try simp only [Act.put, List.setIfInBounds_toArray, List.set_cons_zero, List.set_cons_succ]
          refine wpAnyH_done (by kernel_rfl) ?_ _
          go_wp2
          go_roundg g
          case measure => omega
          case rel => exact ⟨k + 1, g2, sn + 1, c2, by have := HKK.out; omega, by have := HSK.out; omega, HLM.out⟩
        · obtain ⟨-, q1⟩ := ctwo HU.out.p
          go_simp
          clear q1
          refine hK.out _ _ trivial (fun _ => ?_)
          clear hK K
          try simp only [Act.put, List.setIfInBounds_toArray, List.set_cons_zero, List.set_cons_succ]
          refine wpAnyH_take (i := 4) (oi := ⟨_, _, _, _, _, _⟩) (v := .pointer (some ⟨sg, 9, none⟩)) rfl (by kernel_rfl) (by kernel_rfl) (by kernel_rfl) (fun _ _ _ h => h) (Or.inl ⟨by rfl, fun w' h => by clear h; go_simp⟩) trivial ?_
          simp only [Act.put, List.setIfInBounds_toArray, List.set_cons_zero, List.set_cons_succ]
          refine wpAnyH_ready (rs := [1, 5]) (by kernel_rfl) (by simp) ?_
          refine (AllReadyH.cons (o := ⟨_, _, _, _, _, _⟩) rfl (fun K hK => ?_) (AllReadyH.cons (o := ⟨_, _, _, _, _, _⟩) rfl (fun K hK => ?_) AllReadyH.nil))
          · obtain ⟨-, q1⟩ := ctwo HU.out.p
            go_simp
            clear q1
            refine hK.out _ _ trivial (fun _ => ?_)
            clear hK K
            try simp only [Act.put, List.setIfInBounds_toArray, List.set_cons_zero, List.set_cons_succ]
            refine wpAnyH_ready (rs := [5]) (by kernel_rfl) (by simp) ?_
            refine (AllReadyH.cons (o := ⟨_, _, _, _, _, _⟩) rfl (fun K hK => ?_) AllReadyH.nil)
            obtain ⟨c9, c10, c11⟩ := HU.out.cells HX.out.h3
            go_simp
            clear c9 c10 c11
            refine hK.out _ _ trivial (fun _ => ?_)
            clear hK K
            try simp only [Act.put, List.setIfInBounds_toArray, List.set_cons_zero, List.set_cons_succ]
            refine wpAnyH_ready (rs := [6]) (by kernel_rfl) (by simp) ?_
            refine (AllReadyH.cons (o := ⟨_, _, _, _, _, _⟩) rfl (fun K hK => ?_) AllReadyH.nil)
            go_simp
            refine hK.out _ _ trivial (fun _ => ?_)
            clear hK K
            try simp only [Act.put, List.setIfInBounds_toArray, List.set_cons_zero, List.set_cons_succ]
            refine wpAnyH_ready (rs := [7]) (by kernel_rfl) (by simp) ?_
            refine (AllReadyH.cons (o := ⟨_, _, _, _, _, _⟩) rfl (fun K hK => ?_) AllReadyH.nil)
            refine step_st2 rfl _ _ rfl w.heap.size (.slice (some ⟨sg, 0, none⟩) sn sc) (S ++ List.replicate k ⟨s3r, s3l, .slice v1 s3l.length v2, s3n, .slice u1 s3n.length u2⟩) (by rfl) (HU.out.o.later (below1 _ _)) U0.heap.size ⟨s3r, s3l, .slice v1 s3l.length v2, s3n, .slice u1 s3n.length u2⟩ (by rfl) (CBlk.new _ _ _) HX.out.oc (by rw [HSN.out]; omega) (Nat.le_trans HU.out.b.size (by simp)) ?_
            intro g2 c2 U2 ho2 hg2 hv2
            obtain ⟨hLM, hPB⟩ := HU.out.more HSN.out HX.out.hP HX.out.hQ HX.out.Pg HX.out.Qg HX.out.PQ HX.out.wP ho2 hg2 hv2
            rw [HSN.out]
            have HLM := hm hLM
            have HPB := hm hPB
            clear ho2 hg2 hv2 hLM hPB
            refine hK.out _ _ trivial (fun _ => ?_)
            clear hK K
            try simp only [Act.put, List.setIfInBounds_toArray, List.set_cons_zero, List.set_cons_succ]
            refine wpAnyH_take (i := 8) (oi := ⟨_, _, _, _, _, _⟩) (v := .pointer (some ⟨P, 1, none⟩)) rfl (by kernel_rfl) (by kernel_rfl) (by kernel_rfl) (fun _ _ _ h => h) (Or.inl ⟨by rfl, fun w' h => by clear h; go_simp⟩) trivial ?_
            simp only [Act.put, List.setIfInBounds_toArray, List.set_cons_zero, List.set_cons_succ]
            refine wpAnyH_ready (rs := [9]) (by kernel_rfl) (by simp) ?_
            refine (AllReadyH.cons (o := ⟨_, _, _, _, _, _⟩) rfl (fun K hK => ?_) AllReadyH.nil)
            obtain ⟨-, q1⟩ := ctwo HPB.out
            have z1 : U2.frozen? ⟨P, 1, none⟩ = false := HPB.out.froz
            go_simp
            clear q1 z1
            refine hK.out _ _ trivial (fun _ => ?_)
            clear hK K
            try simp only [Act.put, List.setIfInBounds_toArray, List.set_cons_zero, List.set_cons_succ]
            refine wpAnyH_done (by kernel_rfl) ?_ _
            go_wp2
            go_roundg g
            case measure => omega
            case rel => exact ⟨k + 1, g2, sn + 1, c2, by have := HKK.out; omega, by have := HSK.out; omega, HLM.out⟩
          · obtain ⟨c9, c10, c11⟩ := HU.out.cells HX.out.h3
            go_simp
            clear c9 c10 c11
            refine hK.out _ _ trivial (fun _ => ?_)
            clear hK K
            try simp only [Act.put, List.setIfInBounds_toArray, List.set_cons_zero, List.set_cons_succ]
            refine wpAnyH_ready (rs := [1, 6]) (by kernel_rfl) (by simp) ?_
            refine (AllReadyH.cons (o := ⟨_, _, _, _, _, _⟩) rfl (fun K hK => ?_) (AllReadyH.cons (o := ⟨_, _, _, _, _, _⟩) rfl (fun K hK => ?_) AllReadyH.nil))
            · obtain ⟨-, q1⟩ := ctwo HU.out.p
              go_simp
              clear q1
              refine hK.out _ _ trivial (fun _ => ?_)
              clear hK K
              try simp only [Act.put, List.setIfInBounds_toArray, List.set_cons_zero, List.set_cons_succ]
              refine wpAnyH_ready (rs := [6]) (by kernel_rfl) (by simp) ?_
              refine (AllReadyH.cons (o := ⟨_, _, _, _, _, _⟩) rfl (fun K hK => ?_) AllReadyH.nil)
              go_simp
              refine hK.out _ _ trivial (fun _ => ?_)
              clear hK K
              try simp only [Act.put, List.setIfInBounds_toArray, List.set_cons_zero, List.set_cons_succ]
              refine wpAnyH_ready (rs := [7]) (by kernel_rfl) (by simp) ?_
              refine (AllReadyH.cons (o := ⟨_, _, _, _, _, _⟩) rfl (fun K hK => ?_) AllReadyH.nil)
              refine step_st2 rfl _ _ rfl w.heap.size (.slice (some ⟨sg, 0, none⟩) sn sc) (S ++ List.replicate k ⟨s3r, s3l, .slice v1 s3l.length v2, s3n, .slice u1 s3n.length u2⟩) (by rfl) (HU.out.o.later (below1 _ _)) U0.heap.size ⟨s3r, s3l, .slice v1 s3l.length v2, s3n, .slice u1 s3n.length u2⟩ (by rfl) (CBlk.new _ _ _) HX.out.oc (by rw [HSN.out]; omega) (Nat.le_trans HU.out.b.size (by simp)) ?_
              intro g2 c2 U2 ho2 hg2 hv2
              obtain ⟨hLM, hPB⟩ := HU.out.more HSN.out HX.out.hP HX.out.hQ HX.out.Pg HX.out.Qg HX.out.PQ HX.out.wP ho2 hg2 hv2
              rw [HSN.out]
              have HLM := hm hLM
              have HPB := hm hPB
              clear ho2 hg2 hv2 hLM hPB
              refine hK.out _ _ trivial (fun _ => ?_)
              clear hK K
              try simp only [Act.put, List.setIfInBounds_toArray, List.set_cons_zero, List.set_cons_succ]
              refine wpAnyH_take (i := 8) (oi := ⟨_, _, _, _, _, _⟩) (v := .pointer (some ⟨P, 1, none⟩)) rfl (by kernel_rfl) (by kernel_rfl) (by kernel_rfl) (fun _ _ _ h => h) (Or.inl ⟨by rfl, fun w' h => by clear h; go_simp⟩) trivial ?_
              simp only [Act.put, List.setIfInBounds_toArray, List.set_cons_zero, List.set_cons_succ]
              refine wpAnyH_ready (rs := [9]) (by kernel_rfl) (by simp) ?_
              refine (AllReadyH.cons (o := ⟨_, _, _, _, _, _⟩) rfl (fun K hK => ?_) AllReadyH.nil)
              obtain ⟨-, q1⟩ := ctwo HPB.out
              have z1 : U2.frozen? ⟨P, 1, none⟩ = false := HPB.out.froz
              go_simp
              clear q1 z1
              refine hK.out _ _ trivial (fun _ => ?_)
              clear hK K
              try simp only [Act.put, List.setIfInBounds_toArray, List.set_cons_zero, List.set_cons_succ]
              refine wpAnyH_done (by kernel_rfl) ?_ _
              go_wp2
              go_roundg g
              case measure => omega
              case rel => exact ⟨k + 1, g2, sn + 1, c2, by have := HKK.out; omega, by have := HSK.out; omega, HLM.out⟩
            · go_simp
              refine hK.out _ _ trivial (fun _ => ?_)
              clear hK K
              try simp only [Act.put, List.setIfInBounds_toArray, List.set_cons_zero, List.set_cons_succ]
              refine wpAnyH_ready (rs := [1]) (by kernel_rfl) (by simp) ?_
              refine (AllReadyH.cons (o := ⟨_, _, _, _, _, _⟩) rfl (fun K hK => ?_) AllReadyH.nil)
              obtain ⟨-, q1⟩ := ctwo (HU.out.p.later (below1 U0 (.cells #[.int .i64 s3r, .slice v1 s3l.length v2, .slice u1 s3n.length u2] 35)))
              go_simp
              clear q1
              refine hK.out _ _ trivial (fun _ => ?_)
              clear hK K
              try simp only [Act.put, List.setIfInBounds_toArray, List.set_cons_zero, List.set_cons_succ]
              refine wpAnyH_ready (rs := [7]) (by kernel_rfl) (by simp) ?_
              refine (AllReadyH.cons (o := ⟨_, _, _, _, _, _⟩) rfl (fun K hK => ?_) AllReadyH.nil)
              refine step_st2 rfl _ _ rfl w.heap.size (.slice (some ⟨sg, 0, none⟩) sn sc) (S ++ List.replicate k ⟨s3r, s3l, .slice v1 s3l.length v2, s3n, .slice u1 s3n.length u2⟩) (by rfl) (HU.out.o.later (below1 _ _)) U0.heap.size ⟨s3r, s3l, .slice v1 s3l.length v2, s3n, .slice u1 s3n.length u2⟩ (by rfl) (CBlk.new _ _ _) HX.out.oc (by rw [HSN.out]; omega) (Nat.le_trans HU.out.b.size (by simp)) ?_
              intro g2 c2 U2 ho2 hg2 hv2
              obtain ⟨hLM, hPB⟩ := HU.out.more HSN.out HX.out.hP HX.out.hQ HX.out.Pg HX.out.Qg HX.out.PQ HX.out.wP ho2 hg2 hv2
              rw [HSN.out]
              have HLM := hm hLM
              have HPB := hm hPB
              clear ho2 hg2 hv2 hLM hPB
              refine hK.out _ _ trivial (fun _ => ?_)
              clear hK K
              try simp only [Act.put, List.setIfInBounds_toArray, List.set_cons_zero, List.set_cons_succ]
              refine wpAnyH_take (i := 8) (oi := ⟨_, _, _, _, _, _⟩) (v := .pointer (some ⟨P, 1, none⟩)) rfl (by kernel_rfl) (by kernel_rfl) (by kernel_rfl) (fun _ _ _ h => h) (Or.inl ⟨by rfl, fun w' h => by clear h; go_simp⟩) trivial ?_
              simp only [Act.put, List.setIfInBounds_toArray, List.set_cons_zero, List.set_cons_succ]
              refine wpAnyH_ready (rs := [9]) (by kernel_rfl) (by simp) ?_
              refine (AllReadyH.cons (o := ⟨_, _, _, _, _, _⟩) rfl (fun K hK => ?_) AllReadyH.nil)
              obtain ⟨-, q1⟩ := ctwo HPB.out
              have z1 : U2.frozen? ⟨P, 1, none⟩ = false := HPB.out.froz
              go_simp
              clear q1 z1
              refine hK.out _ _ trivial (fun _ => ?_)
              clear hK K
              try simp only [Act.put, List.setIfInBounds_toArray, List.set_cons_zero, List.set_cons_succ]
              refine wpAnyH_done (by kernel_rfl) ?_ _
              go_wp2
              go_roundg g
              case measure => omega
              case rel => exact ⟨k + 1, g2, sn + 1, c2, by have := HKK.out; omega, by have := HSK.out; omega, HLM.out⟩
      | zero =>
        have hlt : ¬ (sn : Int) < 5000 := by omega
        have HCH : Hid (cheH K4 K4 (S4 ++ List.replicate k st4) my4 = 0) := che_more (by omega)
        have HK6 : Hid (k ≤ 6000) := by show _ ≤ _; omega
        clear hk hsn
        go_upto_region 9 with fail
        clear q1
        have HU := hm HI.out.drew
        clear HI
        refine wp_region_held_drew (S := fun w' => LM w X w' gr gs gf P Q S s3 sg sn sc k) (by kernel_rfl) HU.out (fun hH => ?_)
        clear HU
        revert hH
        generalize wr.drew = U0
        intro hH
        refine wpAnyH_take (i := 1) (oi := ⟨_, _, _, _, _, _⟩) (v := .agg #[.slice (some ⟨gr, 0, none⟩) 4 4, .slice (some ⟨sg, 0, none⟩) sn sc]) rfl (by kernel_rfl) (by kernel_rfl) (by kernel_rfl) (fun _ _ _ h => h) (Or.inl ⟨by rfl, fun w' h => by obtain ⟨q0, q1⟩ := ctwo h.p; clear h; go_simp⟩) hH ?_
        simp only [Act.put, List.setIfInBounds_toArray, List.set_cons_zero, List.set_cons_succ]
        refine wpAnyH_take (i := 2) (oi := ⟨_, _, _, _, _, _⟩) (v := .agg #[.int .i64 0, .int .i64 0, .string ⟨#[]⟩, .string ⟨#[109, 97, 121]⟩, .slice (some ⟨gf, 0, none⟩) 1 1]) rfl (by kernel_rfl) (by kernel_rfl) (by kernel_rfl) (fun _ _ _ h => h) (Or.inl ⟨by rfl, fun w' h => by obtain ⟨q0, q1, q2, q3, q4⟩ := cfive h.q; clear h; go_simp⟩) hH ?_
        simp only [Act.put, List.setIfInBounds_toArray, List.set_cons_zero, List.set_cons_succ]
        refine wpAnyH_ready (rs := [0]) (by kernel_rfl) (by simp) ?_
        refine (AllReadyH.cons (o := ⟨_, _, _, _, _, _⟩) rfl (fun K hK => ?_) AllReadyH.nil)
        go_simp
        refine (four_any _).mono ?_
        rintro e U1 ⟨g1, l1, rfl, hk, -, hky, hb⟩
        have HC1 := hm (hk _ (Nat.le_refl _) (fun _ _ _ => rfl))
        have HK1 := hm hky
        refine hK.out _ _ (hH.later hb) (fun hH => ?_)
        clear hK K hb hk hky
        try simp only [Act.put, List.setIfInBounds_toArray, List.set_cons_zero, List.set_cons_succ]
        refine wpAnyH_ready (rs := [3]) (by kernel_rfl) (by simp) ?_
        refine (AllReadyH.cons (o := ⟨_, _, _, _, _, _⟩) rfl (fun K hK => ?_) AllReadyH.nil)
        go_simp
        refine (lim_go HX.out hH HC1.out HK1.out HK6.out HCH.out).mono ?_
        rintro e U2 ⟨rfl, hb⟩
        refine hK.out _ _ (hH.later hb) (fun hH => ?_)
        clear hK K hb
        try simp only [Act.put, List.setIfInBounds_toArray, List.set_cons_zero, List.set_cons_succ]
        refine wpAnyH_take (i := 4) (oi := ⟨_, _, _, _, _, _⟩) (v := .bool true) rfl (by kernel_rfl) (by kernel_rfl) (by kernel_rfl) (fun _ _ _ h => h) (Or.inl ⟨by rfl, fun w' h => by clear h; go_simp⟩) hH ?_
        simp only [Act.put, List.setIfInBounds_toArray, List.set_cons_zero, List.set_cons_succ]
        refine wpAnyH_take (i := 5) (oi := ⟨_, _, _, _, _, _⟩) (v := .bool true) rfl (by kernel_rfl) (by kernel_rfl) (by kernel_rfl) (fun _ _ _ h => h) (Or.inl ⟨by rfl, fun w' h => by clear h; go_simp⟩) hH ?_
        simp only [Act.put, List.setIfInBounds_toArray, List.set_cons_zero, List.set_cons_succ]
        refine wpAnyH_ready (rs := [6]) (by kernel_rfl) (by simp) ?_
        refine (AllReadyH.cons (o := ⟨_, _, _, _, _, _⟩) rfl (fun K hK => ?_) AllReadyH.nil)
        go_simp
        refine (first12_any _).mono ?_
        rintro e U3 ⟨rfl, hb⟩
        refine hK.out _ _ (hH.later hb) (fun hH => ?_)
        clear hK K hb
        try simp only [Act.put, List.setIfInBounds_toArray, List.set_cons_zero, List.set_cons_succ]
        refine wpAnyH_take (i := 7) (oi := ⟨_, _, _, _, _, _⟩) (v := .bool true) rfl (by kernel_rfl) (by kernel_rfl) (by kernel_rfl) (fun _ _ _ h => h) (Or.inl ⟨by rfl, fun w' h => by clear h; go_simp⟩) hH ?_
        simp only [Act.put, List.setIfInBounds_toArray, List.set_cons_zero, List.set_cons_succ]
        refine wpAnyH_take (i := 8) (oi := ⟨_, _, _, _, _, _⟩) (v := .bool true) rfl (by kernel_rfl) (by kernel_rfl) (by kernel_rfl) (fun _ _ _ h => h) (Or.inl ⟨by rfl, fun w' h => by clear h; go_simp⟩) hH ?_
        simp only [Act.put, List.setIfInBounds_toArray, List.set_cons_zero, List.set_cons_succ]
        refine wpAnyH_done (by kernel_rfl) ?_ _
        go_wp2
        go_ret
        exact ⟨rfl, hH.b⟩
end Go.Proofs.Ytbhdalchnbfohaa
