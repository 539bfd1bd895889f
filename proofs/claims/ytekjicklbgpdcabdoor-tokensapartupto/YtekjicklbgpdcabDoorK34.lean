/-
  copied: a list of tokens of its own.
-/
import Derived.Test.YtekjicklbgpdcabDoorK33
namespace Go.Proofs.YtekjicklbgpdcabDoor
open Go.RowKit

theorem OwnK.kso {w : World} {base : Nat} {v : Value} {l : List Tk} (h : OwnK w base v l) (hl : l.length ≤ 2000000) : KsO w v l := by
  rcases h.2 with ⟨hv, hn⟩ | ⟨g, cap, cur, hv, -⟩
  · exact Or.inl ⟨hv, List.eq_nil_of_length_eq_zero hn⟩
  · obtain ⟨a, cap', hva, hm⟩ := h.ks
    rw [hv] at hva
    simp only [Value.slice.injEq, true_and] at hva
    obtain ⟨rfl, rfl⟩ := hva
    refine Or.inr ⟨⟨g, 0, none⟩, cap, hv, hl, hm.imp id ?_⟩
    rintro ⟨b, o, hbo, hlt, hc⟩
    simp only [Option.some.injEq] at hbo
    exact ⟨b, o, hbo, hlt, hc⟩
theorem KsO.later {w w' : World} {v : Value} {l : List Tk} (h : KsO w v l) (hb : Below w.heap.size w w') : KsO w' v l := by
  rcases h with h | ⟨ad, cap, rfl, hl, h⟩
  · exact Or.inl h
  · refine Or.inr ⟨ad, cap, rfl, hl, h.imp id ?_⟩
    rintro ⟨b, o, rfl, hlt, hc⟩
    refine ⟨b, o, rfl, Nat.lt_of_lt_of_le hlt hb.size, fun i t ht => ?_⟩
    obtain ⟨h0, h1, h2, h3, h4⟩ := hc i t ht
    exact ⟨cell_step hb hlt h0, cell_step hb hlt h1, cell_step hb hlt h2, cell_step hb hlt h3, cell_step hb hlt h4⟩
theorem spl_ne {t : Tk} {s : ByteArray} (h : spl t = some s) : ¬ s = ⟨#[]⟩ := by
  obtain ⟨c, r, e, -⟩ := spl_head h
  intro hs
  rw [hs] at e
  cases e
/-- The joined text, cut again. -/
theorem cut_back {l : List Tk} {z : List Int} (h : jz none l = some z) (ho : ∀ t ∈ l, okt t) : ∃ T, cutL (bl (ofL z)) (ofL z).size = (T, 0, 0) ∧ T.map Tk.bar = l.map Tk.bar := by
  have hb := bl_ofL (jz_byt l none z h)
  obtain ⟨T, hT, hm⟩ := ct_jz l none z ((ofL z).size + 1) 0 [] h ho (by rw [ofL_size]; omega)
  refine ⟨T, ?_, hm⟩
  rw [cutL_all, hb, hT, List.nil_append]
theorem copied_any (l : List Tk) (v : Value) (w : World) (h : KsO w v l) :
    Calls Tryd.prog 11 #[v] w fun e w' => ∃ v', e = .returned v' ∧ OwnK w' w.heap.size v' l ∧ Below w.heap.size w w' := by
  obtain ⟨i, z, hi, hz0, hz1, hz2, hz3⟩ := infoTok_parts
  rcases h with ⟨rfl, rfl⟩ | ⟨ad, cap, rfl, hl, h⟩
  · go_enter Tryd.func11, Tryd.ntmps11
    go_wp2_with (at_builtin; refine wpList_append_own_none _ _ _ _ rfl w.heap.size 37 i 5 Tryd.underlying22 hi (.slice none 0 0) 0 [] (by rfl) (World.ownsRow_nil _ _ _ _) (by rfl) ?_)
    go_ret
    exact ⟨_, rfl, OwnK.nil _ _, Below.refl _ _⟩
  · have hnw : ∀ j u, (kcs l)[j]? = some u → w.cell? (ad.add j) = some u := by
      rcases h with h | ⟨b, o, rfl, -, h⟩
      · subst h; intro j u hu; simp [kcs] at hu
      · exact kcs_cell h
    have HN : Hid (∀ j u, (kcs l)[j]? = some u → w.cell? (ad.add j) = some u) := hnw
    clear h hnw
    go_enter Tryd.func11, Tryd.ntmps11
    go_wp2_with (at_builtin; refine wpList_append_own _ rfl _ _ _ rfl w.heap.size 37 i z 5 48 Tryd.underlying22 hi hz0 hz1 hz2 hz3 (by omega) (.slice none 0 0) 0 [] (by rfl) (World.ownsRow_nil _ _ _ _) ad l.length cap (kcs l) (by rfl) (kcs_len l) HN.out (kcs_one l) (by unfold maxLen; omega) (by omega) (Nat.le_refl _) ?_; intro v1 w1 hown hgrow hnil; rw [Nat.zero_add, List.nil_append] at hown)
    go_ret
    exact ⟨_, rfl, hown, (Below.refl _ _).grown hgrow (Nat.le_refl _) (fun q e => by simp [Value.ownBlock] at e)⟩
end Go.Proofs.YtekjicklbgpdcabDoor
