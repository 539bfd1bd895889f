/-
  Lists of clauses in memory: copied, sorted. (Written by SD3.py.)
-/
import Derived.Test.YtdfgijdededolabSD2
import Derived.Test.YtdfgijdededolabLD2
import Derived.Test.YtdfgijdededolabCL19
import Derived.Lib.SliceRun
namespace Go.Proofs.Ytdfgijdededolab
open Go.RowKit

def CRow (w : World) (b o : Nat) (l : List Cm) : Prop := b < w.heap.size ∧ ∀ (i : Nat) (c : Cm), l[i]? = some c → ∀ (k : Nat) (u : Value), c.csl[k]? = some u → w.cell? ⟨b, o + i * 7 + k, none⟩ = some u
theorem CRow.later {w w' : World} {b o : Nat} {l : List Cm} (h : CRow w b o l) (hb : Below w.heap.size w w') : CRow w' b o l :=
  ⟨Nat.lt_of_lt_of_le h.1 hb.size, fun i c hc k u hu => by rw [hb.cell (p := ⟨b, _, none⟩) h.1]; exact h.2 i c hc k u hu⟩
structure CsP (w : World) (v : Value) (l : List Cm) : Prop where
  m : (v = .slice none 0 0 ∧ l = []) ∨ ∃ ad cap, v = .slice (some ad) l.length cap ∧ (l = [] ∨ ∃ b o, ad = ⟨b, o, none⟩ ∧ CRow w b o l)
  ok : ∀ c ∈ l, c.ok w
theorem CsP.later {w w' : World} {v : Value} {l : List Cm} (h : CsP w v l) (hb : Below w.heap.size w w') : CsP w' v l := by
  refine ⟨?_, fun c hc => (h.ok c hc).later hb⟩
  rcases h.m with h | ⟨ad, cap, h1, h2⟩
  · exact Or.inl h
  · refine Or.inr ⟨ad, cap, h1, ?_⟩
    rcases h2 with h2 | ⟨b, o, h2, h3⟩
    · exact Or.inl h2
    · exact Or.inr ⟨b, o, h2, h3.later hb⟩
theorem crow_get {w : World} {b o : Nat} {l : List Cm} (h : CRow w b o l) : ∀ j u, (ccs l)[j]? = some u → w.cell? ((⟨b, o, none⟩ : Addr).add j) = some u := fun j u hu => by
  have hj := (List.getElem?_eq_some_iff.1 hu).1
  rw [ccs_len] at hj
  obtain ⟨d, hd⟩ : ∃ d, l[j / 7]? = some d := ⟨_, List.getElem?_eq_getElem (by omega)⟩
  have hg := ccs_get l (j / 7) d hd (j % 7) (by omega)
  rw [show j / 7 * 7 + j % 7 = j by omega, hu] at hg
  rw [Go.WideShapes.add_plain, show o + j = o + j / 7 * 7 + j % 7 by omega]
  exact h.2 _ d hd _ u hg.symm
theorem OwnC.nil (w : World) (base : Nat) : OwnC w base (.slice none 0 0) [] := World.ownsRow_nil _ _ _ _
theorem OwnC.later {w w' : World} {base : Nat} {v : Value} {l : List Cm} (h : OwnC w base v l) (hb : Below w.heap.size w w') : OwnC w' base v l := by
  refine ⟨h.1, ?_⟩
  rcases h.2 with hn | ⟨g, cap, cur, hv, hbb, hg, rest⟩
  · exact Or.inl hn
  · exact Or.inr ⟨g, cap, cur, hv, hbb, (hb.block g (Array.getElem?_eq_some_iff.1 hg).1).trans hg, rest⟩
theorem OwnC.form {w : World} {base : Nat} {v : Value} {l : List Cm} (h : OwnC w base v l) : ∃ a cap, v = .slice a l.length cap := by
  rcases h.2 with ⟨rfl, hn⟩ | ⟨g, cap, cur, hv, _⟩
  · exact ⟨none, 0, by rw [hn]⟩
  · exact ⟨_, cap, hv⟩
theorem OwnC.empty {w : World} {b base : Nat} (h : CBlk w b #[] 30) (hb : base ≤ b) : OwnC w base (.slice (some ⟨b, 0, none⟩) 0 0) [] :=
  ⟨rfl, Or.inr ⟨b, 0, #[], rfl, hb, h, Nat.le_refl _, by unfold maxLen; omega, rfl, rfl⟩⟩
theorem csl_one {c : Cm} {w : World} (h : c.ok w) : ∀ u ∈ c.csl, u.oneCell' = true := by
  obtain ⟨⟨a, n, cp, e1⟩, ⟨a', cp', e2⟩, ⟨a'', cp'', e3⟩, -, -⟩ := h.shape
  intro u hu
  simp only [Cm.csl, e1, e2, e3] at hu
  simp at hu
  rcases hu with rfl | rfl | rfl | rfl | rfl | rfl | rfl <;> rfl
theorem Try.infoClause : (Try.prog.info? 30).map (fun i => (i.zero, i.size, i.bytes)) = some (some (.agg #[.int .i64 0, .int .i64 0, .string ⟨#[]⟩, .string ⟨#[]⟩, .slice none 0 0, .slice none 0 0, .slice none 0 0]), 7, 120) := by kernel_rfl
theorem capp_list {ops : Array Oper} {rest : List Oper} {o : Oper} {a : Act} {Q : Exit → Act → World → Prop} {w : World} (hgd : o.guard = none) (s x : Operand)
    (ho : o.op = .call { callee := .builtin .append, args := #[s, x], argTypes := #[40, 40] }) (base : Nat) (v : Value) (l : List Cm) (hs : a.eval s = v) (hown : OwnC w base v l)
    (y : Value) (m : List Cm) (hx : a.eval x = y) (hy : CsP w y m) (hlen : l.length + m.length ≤ 1000000000000) (hbase : base ≤ w.heap.size)
    (h : ∀ v' w', OwnC w' base v' (l ++ m) → Below base w w' → w.grownBy w' v.ownBlock → wpList Try.prog ops Q rest (a.put o.dst v') w') : wpList Try.prog ops Q (o :: rest) a w := by
  obtain ⟨i0, hi0, hz0, hz1, hz2⟩ := info_parts Try.infoClause
  rcases hy.m with ⟨rfl, rfl⟩ | ⟨ad, cap, rfl, hm⟩
  · refine wpList_append_own_none hgd s x 40 ho base 30 i0 7 Try.underlying40 hi0 v l.length (ccs l) hs hown hx ?_
    exact h v w (by rw [List.append_nil]; exact hown) (Below.refl _ _) (World.grownBy.refl _ _)
  · refine wpList_append_own _ hgd s x 40 ho base 30 i0 _ 7 120 Try.underlying40 hi0 hz0 hz1 hz2 rfl (by omega) v l.length (ccs l) hs hown ad m.length cap (ccs m) hx (ccs_len m) ?_ (fun u hu => by obtain ⟨z, hz, hu⟩ := List.mem_flatMap.1 hu; exact csl_one (hy.ok z hz) u hu) (by unfold maxLen; omega) (by omega) hbase ?_
    · rcases hm with rfl | ⟨b, o', rfl, hm⟩
      · intro j u hu; simp [ccs] at hu
      · exact crow_get hm
    · intro v' w' h1 h2 _
      refine h v' w' ?_ (grown_below3 h2 (fun k hk => (World.ownsRow.lt hown k hk).1) hbase) h2
      unfold OwnC
      rw [List.length_append, ccs_app]
      exact h1
set_option maxRecDepth 100000 in
theorem len64_tinyC (n : Int) (h : n = 0 ∨ n = 1) (w : World) : Calls Try.prog 82 #[.int .u64 n] w fun e w' => (∃ m : Int, e = .returned (.int .i64 m)) ∧ w' = w := by
  rcases h with rfl | rfl
  · go_enter Try.func82, Try.ntmps82
    go_wp2
    go_ret
    exact ⟨⟨_, rfl⟩, rfl⟩
  · go_enter Try.func82, Try.ntmps82
    go_wp2
    go_ret
    exact ⟨⟨_, rfl⟩, rfl⟩
theorem len_tinyC (n : Nat) (h : n ≤ 1) (w : World) : Calls Try.prog 57 #[.int .u64 n] w fun e w' => (∃ m : Int, e = .returned (.int .i64 m)) ∧ w' = w := by
  have hn : (n : Int) = 0 ∨ (n : Int) = 1 := by omega
  have HN : Hid ((n : Int) = 0 ∨ (n : Int) = 1) := hn
  clear hn h
  go_enter Try.func57, Try.ntmps57
  go_wp2_with (go_at_call 82; refine (len64_tinyC _ HN.out _).mono ?_; rintro e w1 ⟨⟨m, rfl⟩, rfl⟩)
  go_ret
  exact ⟨⟨_, rfl⟩, rfl⟩
theorem ins_tinyC (v f : Value) (n : Nat) (h : n ≤ 1) (w : World) : Calls Try.prog 73 #[v, .int .i64 0, .int .i64 n, f] w fun e w' => e = .returned (.tuple #[]) ∧ w' = w := by
  have hn : ¬ (1 : Int) < (n : Int) := by omega
  go_enter Try.func73, Try.ntmps73
  go_wp2
  go_loop [8] (fun i => i = .int .i64 1) (fun _ => 0)
  case atStart => rfl
  case round =>
    subst hrel
    go_wp2
    go_end0
    exact ⟨rfl, rfl⟩
theorem pdq_tinyC (v f : Value) (n : Nat) (h : n ≤ 1) (m : Int) (w : World) : Calls Try.prog 56 #[v, .int .i64 0, .int .i64 n, .int .i64 m, f] w fun e w' => e = .returned (.tuple #[]) ∧ w' = w := by
  have hn : (n : Int) ≤ 12 := by omega
  have hn0 : (0 : Int) ≤ n := by omega
  go_enter Try.func56, Try.ntmps56
  go_wp2
  go_loop [1, 2] (fun a b => a = .int .i64 0 ∧ b = .int .i64 n) (fun _ _ => 0)
  case atStart => exact ⟨rfl, rfl⟩
  case round =>
    obtain ⟨rfl, rfl⟩ := hrel
    go_wp2_with (go_at_call 73; refine (ins_tinyC _ _ _ h _).mono ?_; rintro e w1 ⟨rfl, rfl⟩)
    (try simp only [Exit.inBlock, Exit.then])
    refine bodyPost_ret (results_none rfl _ _ _) rfl ?_
    exact ⟨rfl, rfl⟩
theorem sortFunc_tinyC (a : Option Addr) (f : Value) (n cap : Nat) (h : n ≤ 1) (w : World) : Calls Try.prog 32 #[.slice a n cap, f] w fun e w' => e = .returned (.tuple #[]) ∧ w' = w := by
  have hw : IntKind.u64.wrap (n : Int) = n := by rw [IntKind.wrap_u64]; omega
  go_enter Try.func32, Try.ntmps32
  go_wp2_with (first
    | (go_at_call 57; refine (len_tinyC n h _).mono ?_; rintro e w1 ⟨⟨m, rfl⟩, rfl⟩)
    | (go_at_call 56; refine (pdq_tinyC _ _ n h _ _).mono ?_; rintro e w1 ⟨rfl, rfl⟩))
  go_end0
  exact ⟨rfl, rfl⟩
set_option maxRecDepth 20000 in
set_option maxHeartbeats 2000000 in
theorem clone_any (l : List Cm) (v : Value) (w : World) (h : CsP w v l) (hl : l.length ≤ 1000000000) :
    Calls Try.prog 31 #[v] w fun e w' => ∃ v', e = .returned v' ∧ OwnC w' w.heap.size v' l ∧ Below w.heap.size w w' := by
  have HP : Hid (CsP w v l) := h
  have qT : ∀ (w : World) (a : Option Addr) (n c n' c' : Nat), (binOp .eql 40 (.slice a n c) (.slice none n' c')).run Try.prog w = .ok (.bool a.isNone) w := fun w a n c n' c' => Lib.run_eql_slice_nil w _ _ a n c n' c' Try.underlying40
  rcases h.m with ⟨rfl, rfl⟩ | ⟨ad, cap, rfl, -⟩
  · clear h
    go_enter Try.func31, Try.ntmps31
    go_wp2
    go_ret
    exact ⟨_, rfl, OwnC.nil _ _, Below.refl _ _⟩
  · clear h
    have HE : Hid (OwnC (w.alloc (.cells #[] 30)) w.heap.size (.slice (some ⟨w.heap.size, 0, none⟩) 0 0) []) := OwnC.empty (CBlk.new _ _ _) (Nat.le_refl _)
    go_enter Try.func31, Try.ntmps31
    go_wp2_with (at_builtin; refine capp_list rfl _ _ rfl w.heap.size _ [] (by rfl) HE.out _ l (by rfl) (HP.out.later (below1 _ _)) (by simp only [List.length_nil]; omega) (by simp) ?_; intro v1 w1 hown hb hg; rw [List.nil_append] at hown; have HO : Hid (OwnC w1 w.heap.size v1 l) := hown; have HW : Hid (Below w.heap.size w w1) := (below1 _ _).trans hb; clear hown hb hg)
    go_ret
    exact ⟨_, rfl, HO.out, HW.out⟩
theorem cf_of {w : World} {g : Nat} : ∀ (l : List Cm), (∀ c ∈ l, ∀ X : World, Below g w X → c.ok X) → ∃ d : Array (Cf w g), d.toList.map (·.1) = l
  | [], _ => ⟨#[], rfl⟩
  | c :: l, h => by
    obtain ⟨d, hd⟩ := cf_of l fun x hx => h x (List.mem_cons_of_mem _ hx)
    exact ⟨((⟨c, h c (List.mem_cons_self ..)⟩ : Cf w g) :: d.toList).toArray, congrArg (c :: ·) hd⟩
/-- The sort of such a list, where its clauses lie below it. -/
theorem sortC_any (l : List Cm) (v : Value) (base : Nat) (w : World) (h : OwnC w base v l) (hc : ∀ c ∈ l, ∀ X : World, Below base w X → c.ok X) (hl : l.length ≤ 1000000000) :
    Calls Try.prog 32 #[v, .func (.func 8) #[] #[]] w fun e w' => e = .returned (.tuple #[]) ∧ ∃ l', OwnC w' base v l' ∧ l'.Perm l ∧ srtC l' ∧ Below base w w' := by
  rcases h.2 with ⟨rfl, hn⟩ | ⟨g, cap, cur, rfl, hb, -⟩
  · have : l = [] := List.length_eq_zero_iff.1 hn
    subst this
    exact (sortFunc_tinyC none _ 0 0 (by omega) w).mono fun e w' ⟨he, hw⟩ => ⟨he, [], by rw [hw]; exact h, List.Perm.refl _, List.Pairwise.nil, by rw [hw]; exact Below.refl _ _⟩
  · have hall : ∀ c ∈ l, ∀ X : World, Below g w X → c.ok X := fun c hm X hX => hc c hm X (hX.mono hb)
    obtain ⟨d, e1⟩ : ∃ d : Array (Cf w g), d.toList.map (·.1) = l := cf_of l hall
    have e2 : d.size = l.length := by rw [← e1]; simp
    have := sortFuncC_all g cap base w d (by rw [e1, e2]; exact h) (by rw [e2]; omega)
    rw [e2, e1] at this
    exact this.mono fun e w' ⟨he, l', h1, h2, h3, h4⟩ => ⟨he, l', h1, h2, h3, h4.mono hb⟩
end Go.Proofs.Ytdfgijdededolab
