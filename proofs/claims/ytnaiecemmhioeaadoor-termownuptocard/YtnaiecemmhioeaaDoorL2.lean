/-
  lent of the laws.
-/
import Derived.Test.YtnaiecemmhioeaaDoorL1
import Derived.Test.YtnaiecemmhioeaaDoorO2
namespace Go.Proofs.YtnaiecemmhioeaaDoor
open Go.RowKit

theorem heap_alloc3 (w : World) (a b c : Obj) : (((w.alloc a).alloc b).alloc c).heap[w.heap.size + 2]? = some c := by
  have h : w.heap.size + 2 = ((w.alloc a).alloc b).heap.size := by simp
  rw [h]; exact heap_alloc_new _ _
set_option maxHeartbeats 2000000 in
theorem lent_any (a : At) (x : Value) (w : World) (h : TsO w x a.args) (hM : MarkOk w) :
    Calls Tryd.prog 4 #[a.v x] w fun e w' => ∃ g cap, e = .returned (a.v (.slice (some ⟨g, 0, none⟩) a.args.length cap)) ∧ OwnT w' w.heap.size (.slice (some ⟨g, 0, none⟩) (a.args.length + 1) cap) (a.args ++ [mark]) ∧ Below w.heap.size w w' := by
  obtain ⟨i0, hi0, hz0, hz1, hz2⟩ := info_parts Tryd.infoTerm
  obtain ⟨⟨k, n, ss⟩, nm, l⟩ := a
  simp only at h ⊢
  rcases h with ⟨rfl, rfl⟩ | ⟨ad, cap, rfl, hl, h⟩
  · have HM : Hid (MarkOk w) := hM
    have C0 := BoxB.start w #[.int .i64 k, .int .i64 n, .string ss, .string nm, .slice none 0 0] #[.int .i64 0, .int .i64 0, .string ⟨#[]⟩, .string ⟨#[]⟩, .slice none 0 0] 26 26
    have B0 : Hid (BoxB w _ #[.int .i64 k, .int .i64 n, .string ss, .string nm, .slice none 0 0] #[.int .i64 0, .int .i64 0, .string ⟨#[]⟩, .string ⟨#[]⟩, .slice none 0 0] 26 26) := C0
    obtain ⟨z0, l0, l1, l2⟩ := hM.later C0.2.2
    clear hM C0
    go_enter Tryd.func4, Tryd.ntmps4
    go_wp2_with (first
      | (at_builtin; refine wpList_append_own_none _ _ _ _ rfl (w.heap.size + 2) 23 i0 3 Tryd.underlying24 hi0 (.slice none 0 0) 0 [] (by rfl) (World.ownsRow_nil _ _ _ _) (by rfl) ?_)
      | (at_builtin; refine wpList_append_lies _ rfl _ _ _ rfl (w.heap.size + 2) 23 i0 _ 3 32 Tryd.underlying24 hi0 hz0 hz1 hz2 rfl (by omega) (.slice none 0 0) 0 [] (by rfl) (World.ownsRow_nil _ _ _ _) ⟨w.heap.size + 2, 0, none⟩ 1 1 mark.cs (by rfl) (by rfl) (World.news_of_block (cs := mark.cs.toArray) (t := 23) (fr := (0, 0)) (heap_alloc3 w _ _ _)) (by simp [Value.oneCell', Tm.cs]) (by omega) (by unfold maxLen; omega) (by omega) (by simp) (w.heap.size + 3) (by simp) ?_; intro gg cap1 w2 hown1 hgrow2 hat hlt1; have hcap : 1 ≤ cap1 := (by rcases hown1.2 with ⟨h, _⟩ | ⟨g, c, cur, hv, _, _, hn, _⟩; (cases h); (simp only [Value.slice.injEq] at hv; omega)); have hB2 := ((Below.refl (w.heap.size + 2) _).alloc (by simp) (.cells mark.cs.toArray 23)).grown hgrow2 (by simp) (fun q e => by simp [Value.ownBlock] at e); have C2 := (Hid.out B0).later2 hB2; obtain ⟨⟨p0, p1, p2, p3, p4⟩, f0, f1, f2, f3, f4⟩ := fiveF C2.1; obtain ⟨⟨q0, q1, q2, q3, q4⟩, g0, g1, g2, g3, g4⟩ := fiveF C2.2.1; have B2 : Hid (BoxB w w2 _ _ _ _) := C2; have HO2 : Hid (OwnT w2 (w.heap.size + 2) (.slice (some ⟨gg, 0, none⟩) 1 cap1) [mark]) := (by show OwnT _ _ _ _; simpa [OwnT, tcs] using hown1); clear C2 hB2 hown1 hgrow2 hat hlt1))
    refine bodyPost_ret (v := (At.mk ⟨k, n, ss⟩ nm []).v (.slice (some ⟨gg, 0, none⟩) 0 cap1)) (by simp [results, Tryd.results4, go_sem, q0, q1, q2, q3, q4]) rfl ⟨gg, cap1, rfl, ?_, ?_⟩
    · exact OwnT.mono (OwnT.set (OwnT.set (OwnT.set (OwnT.set (OwnT.set (OwnT.set HO2.out (by omega)) (by omega)) (by omega)) (by omega)) (by omega)) (by omega)) (by omega)
    · exact bset (bset (bset (bset (bset (bset (Hid.out B2).2.2 (Nat.le_refl _)) (by omega)) (by omega)) (by omega)) (by omega)) (by omega)
  · have HM : Hid (MarkOk w) := hM
    have hnw : ∀ j u, (tcs l)[j]? = some u → ((w.alloc (.cells #[.int .i64 k, .int .i64 n, .string ss, .string nm, .slice (some ad) l.length cap] 26)).alloc (.cells #[.int .i64 0, .int .i64 0, .string ⟨#[]⟩, .string ⟨#[]⟩, .slice none 0 0] 26)).cell? (ad.add j) = some u := by
      rcases h with h | ⟨b, o, rfl, h⟩
      · subst h; intro j u hu; simp [tcs] at hu
      · exact trow_get (h.later (below2 _ _ _))
    have HN : Hid (∀ j u, (tcs l)[j]? = some u → ((w.alloc (.cells #[.int .i64 k, .int .i64 n, .string ss, .string nm, .slice (some ad) l.length cap] 26)).alloc (.cells #[.int .i64 0, .int .i64 0, .string ⟨#[]⟩, .string ⟨#[]⟩, .slice none 0 0] 26)).cell? (ad.add j) = some u) := hnw
    have C0 := BoxB.start w #[.int .i64 k, .int .i64 n, .string ss, .string nm, .slice (some ad) l.length cap] #[.int .i64 0, .int .i64 0, .string ⟨#[]⟩, .string ⟨#[]⟩, .slice none 0 0] 26 26
    have B0 : Hid (BoxB w _ #[.int .i64 k, .int .i64 n, .string ss, .string nm, .slice (some ad) l.length cap] #[.int .i64 0, .int .i64 0, .string ⟨#[]⟩, .string ⟨#[]⟩, .slice none 0 0] 26 26) := C0
    clear h hM hnw C0
    go_enter Tryd.func4, Tryd.ntmps4
    go_wp2_with (first
      | (at_builtin; refine wpList_append_own _ rfl _ _ _ rfl (w.heap.size + 2) 23 i0 _ 3 32 Tryd.underlying24 hi0 hz0 hz1 hz2 rfl (by omega) (.slice none 0 0) 0 [] (by rfl) (World.ownsRow_nil _ _ _ _) ad l.length cap (tcs l) (by rfl) (tcs_len l) HN.out (fun u hu => tcs_mem hu) (by unfold maxLen; omega) (by omega) (by simp) ?_; intro v1 w1 hown hgrow hnil; rw [Nat.zero_add, List.nil_append] at hown; have hB1 := (Below.refl (w.heap.size + 2) _).grown hgrow (by simp) (fun q e => by simp [Value.ownBlock] at e); have C1 := (Hid.out B0).later2 hB1; obtain ⟨z0, l0, l1, l2⟩ := HM.out.later C1.2.2; have HO : Hid (OwnT w1 (w.heap.size + 2) v1 l) := hown; have hsz : w.heap.size + 2 ≤ w1.heap.size := C1.lt; have B1 : Hid (BoxB w w1 _ _ _ _) := C1; clear hown hgrow hnil C1 hB1)
      | (at_builtin; refine wpList_append_lies _ rfl _ _ _ rfl (w.heap.size + 2) 23 i0 _ 3 32 Tryd.underlying24 hi0 hz0 hz1 hz2 rfl (by omega) v1 l.length (tcs l) (by rfl) (HO.out.later (below1 _ _)) ⟨w1.heap.size, 0, none⟩ 1 1 mark.cs (by rfl) (by rfl) (World.news_of_block (cs := mark.cs.toArray) (t := 23) (fr := (0, 0)) (heap_alloc_new w1 _)) (by simp [Value.oneCell', Tm.cs]) (by omega) (by unfold maxLen; omega) (by omega) (by simp; omega) (w1.heap.size + 1) (by simp) ?_; intro gg cap1 w2 hown1 hgrow2 hat hlt1; have hcap : l.length + 1 ≤ cap1 := (by rcases hown1.2 with ⟨h, _⟩ | ⟨g, c, cur, hv, _, _, hn, _⟩; (cases h); (simp only [Value.slice.injEq] at hv; omega)); have hlto := (HO.out.later (below1 w1 (.cells mark.cs.toArray 23))).lt; have hB2 := ((Below.refl (w.heap.size + 2) w1).alloc hsz (.cells mark.cs.toArray 23)).grown hgrow2 (by simp; omega) (fun q e => by have := hlto _ e; omega); have C2 := (Hid.out B1).later2 hB2; obtain ⟨⟨p0, p1, p2, p3, p4⟩, f0, f1, f2, f3, f4⟩ := fiveF C2.1; obtain ⟨⟨q0, q1, q2, q3, q4⟩, g0, g1, g2, g3, g4⟩ := fiveF C2.2.1; have B2 : Hid (BoxB w w2 _ _ _ _) := C2; have HO2 : Hid (OwnT w2 (w.heap.size + 2) (.slice (some ⟨gg, 0, none⟩) (l.length + 1) cap1) (l ++ [mark])) := (by show OwnT _ _ _ _; unfold OwnT; rw [tcs_snoc, List.length_append]; exact hown1); clear C2 hB2 hlto hown1 hgrow2 hat hlt1))
    refine bodyPost_ret (v := (At.mk ⟨k, n, ss⟩ nm l).v (.slice (some ⟨gg, 0, none⟩) l.length cap1)) (by simp [results, Tryd.results4, go_sem, q0, q1, q2, q3, q4]) rfl ⟨gg, cap1, rfl, ?_, ?_⟩
    · exact OwnT.mono (OwnT.set (OwnT.set (OwnT.set (OwnT.set (OwnT.set (OwnT.set HO2.out (by omega)) (by omega)) (by omega)) (by omega)) (by omega)) (by omega)) (by omega)
    · exact bset (bset (bset (bset (bset (bset (Hid.out B2).2.2 (Nat.le_refl _)) (by omega)) (by omega)) (by omega)) (by omega)) (by omega)
set_option maxHeartbeats 1000000 in
theorem kept_any
    (a : At) (y : Value) (g cap base : Nat) (w : World) (h : Ts w y a.args) (ho : OwnT w base (.slice (some ⟨g, 0, none⟩) (a.args.length + 1) cap) (a.args ++ [mark])) (hM : MarkOk w) :
    Calls Tryd.prog 8 #[a.v (.slice (some ⟨g, 0, none⟩) a.args.length cap), a.v y] w fun e w' => e = .returned (.bool true) ∧ Below w.heap.size w w' := by
  have hs : a.args.length < 1000000000000000000 := by obtain ⟨_, _, _, h, _⟩ := h; exact h
  have hcap := ownT_cap ho
  have HB := fun W (hb : Below w.heap.size w W) => same_any a a _ y W ((ownT_pre ho hs).later hb) (h.later hb)
  rw [decide_eq_true rfl] at HB
  have HO : Hid (OwnT w base (.slice (some ⟨g, 0, none⟩) (a.args.length + 1) cap) (a.args ++ [mark])) := ho
  have HM : Hid (MarkOk w) := hM
  obtain ⟨⟨k, n, ss⟩, nm, l⟩ := a
  simp only at *
  have HB : Hid (∀ W, Below w.heap.size w W → Calls Tryd.prog 18 #[At.v ⟨⟨k, n, ss⟩, nm, l⟩ (.slice (some ⟨g, 0, none⟩) l.length cap), At.v ⟨⟨k, n, ss⟩, nm, l⟩ y] W fun e w' => e = .returned (.bool true) ∧ Below W.heap.size W w') := HB
  obtain ⟨ad, cap', rfl, -, -⟩ := h
  have he := run_eql_tm mark mark
  rw [decide_eq_true rfl] at he
  unfold mark at he
  have i0 : (0 : Int) ≤ (l.length : Int) := by omega
  have i1 : (l.length : Int) < (l.length : Int) + 1 := by omega
  have hcap' : (l.length : Int) + 1 ≤ (cap : Int) := by omega
  clear ho hM
  go_enter Tryd.func8, Tryd.ntmps8
  go_wp2_with (go_at_call 18; refine (HB.out _ (below2 _ _ _)).mono ?_; rintro e w1 ⟨rfl, hb1⟩; have C1 := (BoxB.start _ _ _ _ _).later hb1; have hbw := C1.2.2; obtain ⟨p0, p1, p2, p3, p4⟩ := five C1.1; obtain ⟨z0, l0, l1, l2⟩ := HM.out.later hbw; obtain ⟨c0, c1, c2⟩ := ownT_cells (HO.out.later hbw) l.length mark (by simp); simp only [mark] at c0 c1 c2; clear C1)
  go_quiet (fail)
  go_wp2
  go_ret
  exact ⟨ret_b rfl, below_drewN hbw _⟩
end Go.Proofs.YtnaiecemmhioeaaDoor
