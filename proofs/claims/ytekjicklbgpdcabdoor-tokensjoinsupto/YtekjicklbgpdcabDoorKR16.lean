/-
  hearsaylaw04.TokensJoins: the walk.
-/
import Derived.Test.YtekjicklbgpdcabDoorKR15
import Derived.Test.YtekjicklbgpdcabDoorK41
namespace Go.Proofs.YtekjicklbgpdcabDoor
open Go.RowKit

theorem app_two {ops : Array Oper} {rest : List Oper} {o : Oper} {a : Act} {Q : Exit → Act → World → Prop} {w : World} (hgd : o.guard = none) (s x : Operand)
    (ho : o.op = .call { callee := .builtin .append, args := #[s, x], argTypes := #[22, 22] }) (base : Nat) (v : Value) (l : List Tk) (hs : a.eval s = v) (hown : OwnK w base v l)
    (b : Nat) (t u : Tk) (hx : a.eval x = .slice (some ⟨b, 0, none⟩) 2 2) (hblk : w.heap[b]? = some (.cells (kcs [t, u]).toArray 37 (0, 0))) (hlen : l.length ≤ 100000000) (hbase : base ≤ w.heap.size)
    (h : ∀ g cap w', OwnK w' base (.slice (some ⟨g, 0, none⟩) (l.length + 2) cap) (l ++ [t, u]) → Below base w w' → l.length + 2 ≤ cap → wpList Tryd.prog ops Q rest (a.put o.dst (.slice (some ⟨g, 0, none⟩) (l.length + 2) cap)) w') : wpList Tryd.prog ops Q (o :: rest) a w := by
  obtain ⟨i, z, hi, hz0, hz1, hz2, hz3⟩ := infoTok_parts
  refine wpList_append_lies _ hgd s x 22 ho base 37 i z 5 48 Tryd.underlying22 hi hz0 hz1 hz2 hz3 (by omega) v l.length (kcs l) hs hown ⟨b, 0, none⟩ 2 2 (kcs [t, u]) hx (by simp [kcs]) ?_ (by simp [kcs, Value.oneCell']) (by omega) (by unfold maxLen; omega) (by omega) hbase _ rfl ?_
  · intro j u' hj
    have := World.news_of_block (cs := (kcs [t, u]).toArray) (t := 37) (fr := (0, 0)) hblk j u'
    exact this (by simpa using hj)
  · intro g cap w' h1 h2 h3 h4
    have hok : OwnK w' base (.slice (some ⟨g, 0, none⟩) (l.length + 2) cap) (l ++ [t, u]) := by
      unfold OwnK
      rw [List.length_append, kcs_app]
      exact h1
    refine h g cap w' hok (grown_below h2 (fun k hk => (World.ownsRow.lt hown k hk).1) hbase) ?_
    rcases hok.2 with ⟨h, _⟩ | ⟨g', c', cur, hv, _, _, hn, _⟩
    · cases h
    · simp only [Value.slice.injEq, List.length_append, List.length_cons, List.length_nil] at hv hn; omega
theorem ks_front {w : World} {g n cap : Nat} {l m : List Tk} (h : Ks w (.slice (some ⟨g, 0, none⟩) n cap) (l ++ m)) (c : Nat) : Ks w (.slice (some ⟨g, 0, none⟩) l.length c) l := by
  obtain ⟨a, cap', hv, hm⟩ := h
  refine ⟨some ⟨g, 0, none⟩, c, rfl, ?_⟩
  rcases hm with hm | ⟨b, o, hbo, hlt, hm⟩
  · left; exact (List.append_eq_nil_iff.1 hm).1
  · right
    simp only [Value.slice.injEq] at hv
    rw [hbo] at hv
    simp only [Option.some.injEq, Addr.mk.injEq, and_true] at hv
    obtain ⟨⟨rfl, rfl⟩, -, -⟩ := hv
    exact ⟨g, 0, rfl, hlt, fun i t ht => hm i t (by rw [List.getElem?_append_left (List.getElem?_eq_some_iff.1 ht).1]; exact ht)⟩
theorem marks_at {w : World} {g cap : Nat} {l : List Tk} (h : Ks w (.slice (some ⟨g, 0, none⟩) (l.length + 2) cap) (l ++ [⟨71, ⟨#[]⟩, 0, 0, 0⟩, ⟨72, ⟨#[]⟩, 0, 0, 0⟩])) : w.cell? ⟨g, l.length * 5, none⟩ = some (.int .i64 71) ∧ w.cell? ⟨g, (l.length + 1) * 5, none⟩ = some (.int .i64 72) := by
  obtain ⟨a, cap', hv, hm⟩ := h
  rcases hm with hm | ⟨b, o, hbo, hlt, hm⟩
  · simp at hm
  · simp only [Value.slice.injEq] at hv
    rw [hbo] at hv
    simp only [Option.some.injEq, Addr.mk.injEq, and_true] at hv
    obtain ⟨⟨rfl, rfl⟩, -, -⟩ := hv
    have h1 := (hm l.length ⟨71, ⟨#[]⟩, 0, 0, 0⟩ (by simp)).1
    have h2 := (hm (l.length + 1) ⟨72, ⟨#[]⟩, 0, 0, 0⟩ (by simp)).1
    rw [Nat.zero_add] at h1 h2
    exact ⟨h1, h2⟩
set_option maxRecDepth 20000 in
set_option maxHeartbeats 4000000 in
theorem joins_any (l : List Tk) (v : Value) (w : World) (hv : KsO w v l) (hE : EnvOk w) (hQ : QOk w) (hok : ∀ t ∈ l, okt t) (hw : wts l ≤ 6291456) (hl : l.length ≤ 174762) :
    Calls Tryd.prog 7 #[v] w fun e w' => e = .returned (.bool true) ∧ Below w.heap.size w w' := by
  obtain ⟨i, z, hi, hz0, hz1, hz2, hz3⟩ := infoTok_parts
  have HV : Hid (Ks w v l) := hv.ks
  have HE : Hid (EnvOk w) := hE
  have HQ : Hid (QOk w) := hQ
  have ch := fun (X : World) (h : EnvOk X) => head_any X h
  have cj := fun (X : World) (u : Value) (h : Ks X u l) (hX : EnvOk X) => join_any l u X h hX hok (by omega) (by omega)
  have cq := fun (X : World) (h : Ks X v l) (hX : QOk X) => qjoin_any l v X h hX hok (by omega) (by omega)
  obtain ⟨S, hS⟩ : ∃ S, ofL ((jn l).getD []) = S := ⟨_, rfl⟩
  obtain ⟨b, hb⟩ : ∃ b, (jn l).isSome = b := ⟨_, rfl⟩
  rw [hS, hb] at cj cq
  have e1 := str_dec S S
  rw [decide_eq_true rfl] at e1
  obtain ⟨va, vc, rfl, -⟩ := hv.ks
  clear hE hQ hok hS hb hw
  go_enter Tryd.func7, Tryd.ntmps7
  go_upto_region 2 with fail
  go_cut [3] from 9 (fun s3 wx => OwnK wx w.heap.size s3 l ∧ Below w.heap.size w wx)
  case first =>
    rcases hv with ⟨hvn, rfl⟩ | ⟨ad, cap, hve, hl2, h⟩
    · simp only [Value.slice.injEq] at hvn
      obtain ⟨rfl, -, rfl⟩ := hvn
      go_wp2_with (at_builtin; refine wpList_append_own_none _ _ _ _ rfl w.heap.size 37 i 5 Tryd.underlying22 hi (.slice none 0 0) 0 [] (by rfl) (World.ownsRow_nil _ _ _ _) (by rfl) ?_)
      go_meet
      case rel => exact ⟨OwnK.nil _ _, Below.refl _ _⟩
    · simp only [Value.slice.injEq, true_and] at hve
      obtain ⟨rfl, rfl⟩ := hve
      have hnw : ∀ j u, (kcs l)[j]? = some u → w.cell? (ad.add j) = some u := by
        rcases h with h | ⟨b, o, rfl, -, h⟩
        · subst h; intro j u hu; simp [kcs] at hu
        · exact kcs_cell h
      have HN : Hid (∀ j u, (kcs l)[j]? = some u → w.cell? (ad.add j) = some u) := hnw
      clear h hnw
      go_wp2_with (at_builtin; refine wpList_append_own _ rfl _ _ _ rfl w.heap.size 37 i z 5 48 Tryd.underlying22 hi hz0 hz1 hz2 hz3 (by omega) (.slice none 0 0) 0 [] (by rfl) (World.ownsRow_nil _ _ _ _) ad l.length vc (kcs l) (by rfl) (kcs_len l) HN.out (kcs_one l) (by unfold maxLen; omega) (by omega) (Nat.le_refl _) ?_; intro v1 w1 hown hgrow hnil; rw [Nat.zero_add, List.nil_append] at hown)
      go_meet
      case rel => exact ⟨hown, (Below.refl _ _).grown hgrow (Nat.le_refl _) (fun q e => by simp [Value.ownBlock] at e)⟩
  case rest =>
    obtain ⟨ho1, hb1⟩ := hcut
    have HO1 : Hid (OwnK wc w.heap.size u3 l) := ho1
    have HB1 : Hid (Below w.heap.size w wc) := hb1
    have hz := hb1.size
    clear ho1 hb1 hv
    go_upto_region 4 with (at_builtin; refine app_two rfl _ _ rfl w.heap.size u3 l rfl (HO1.out.later (below1 _ _)) wc.heap.size ⟨71, ⟨#[]⟩, 0, 0, 0⟩ ⟨72, ⟨#[]⟩, 0, 0, 0⟩ rfl (heap_alloc_new wc _) (by omega) (by simp; omega) ?_; intro g cap w2 ho2 hb2 hcap)
    have HB2 : Hid (Below w.heap.size w w2) := (HB1.out.trans ((below1 _ _).mono hz)).trans hb2
    have HK2 : Hid (Ks w2 (.slice (some ⟨g, 0, none⟩) (l.length + 2) cap) (l ++ [⟨71, ⟨#[]⟩, 0, 0, 0⟩, ⟨72, ⟨#[]⟩, 0, 0, 0⟩])) := ho2.ks
    have i1 : (l.length : Int) ≤ (cap : Int) := by omega
    have i2 : (0 : Int) ≤ (l.length : Int) := by omega
    have i3 : (l.length : Int) < ((l.length + 2 : Nat) : Int) := by omega
    have i4 : (l.length : Int) + 1 < ((l.length + 2 : Nat) : Int) := by omega
    clear ho2 hb2 HO1 HB1
    go_upto_region 5 with (go_at_call 10; refine (cj _ _ (ks_front HK2.out cap) (HE.out.later HB2.out)).mono ?_; rintro y w3 ⟨rfl, hb3⟩)
    have HB3 : Hid (Below w.heap.size w w3) := below_step HB2.out hb3
    have HK3 : Hid (Ks w3 (.slice (some ⟨g, 0, none⟩) (l.length + 2) cap) (l ++ [⟨71, ⟨#[]⟩, 0, 0, 0⟩, ⟨72, ⟨#[]⟩, 0, 0, 0⟩])) := HK2.out.later hb3
    clear hb3 cj HK2 HB2
    go_upto_region 7 with (go_at_call 19; refine (cq _ (HV.out.later HB3.out) (HQ.out.later HB3.out)).mono ?_; rintro y w4 ⟨rfl, hb4⟩)
    have HB4 : Hid (Below w.heap.size w w4) := below_step HB3.out hb4
    have HK4 : Hid (Ks w4 (.slice (some ⟨g, 0, none⟩) (l.length + 2) cap) (l ++ [⟨71, ⟨#[]⟩, 0, 0, 0⟩, ⟨72, ⟨#[]⟩, 0, 0, 0⟩])) := HK3.out.later hb4
    clear hb4 cq HK3 HB3
    have hsame := same_any l (.slice (some ⟨g, 0, none⟩) l.length cap) (.slice va l.length vc) w4 (ks_front HK4.out cap) (HV.out.later HB4.out) (by omega)
    cases b <;>
    · go_wp2_with (first
        | (go_at_call 13; refine hsame.mono ?_; rintro y w5 ⟨rfl, hb5⟩; obtain ⟨k1, k2⟩ := marks_at (HK4.out.later hb5))
        | (go_at_call 9; refine (ch _ (HE.out.later (below_step HB4.out hb5))).mono ?_; rintro y w6 ⟨rfl, hb6⟩))
      go_ret
      exact ⟨rfl, below_step (below_step HB4.out hb5) hb6⟩
end Go.Proofs.YtekjicklbgpdcabDoor
