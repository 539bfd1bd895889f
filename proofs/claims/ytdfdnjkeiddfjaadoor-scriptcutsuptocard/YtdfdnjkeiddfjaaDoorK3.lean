/-
  wordOrSays, signKind, signAt, number.
-/
import Derived.Test.YtdfdnjkeiddfjaaDoorK2
import Derived.Test.YtdfdnjkeiddfjaaDoorShelf
import Derived.Lib.LaidTab
import Derived.Lib.AtoiErrMem
import Derived.Lib.ItoaLen
import Derived.Lib.AppendIntMem
import Derived.BigCall
import Derived.Laws.ResultCell
namespace Go.Proofs.YtdfdnjkeiddfjaaDoor
open Go.RowKit

theorem var_later {w w' : World} {n : String} {v : Array Value} (h : w.var? Tryd.prog n = some v) (hb : Below w.heap.size w w') : w'.var? Tryd.prog n = some v := by
  unfold World.var? at *
  cases hg : Tryd.prog.globalNamed n with
  | none => simp [hg] at h
  | some g =>
    simp only [hg, Option.bind_some] at h ⊢
    have hlt : g < w.heap.size := by
      rcases Nat.lt_or_ge g w.heap.size with h' | h'
      · exact h'
      · rw [Array.getElem?_eq_none h'] at h; simp at h
    rw [hb.block g hlt]
    exact h
/-- What the tables and errors of the program and the library hold. -/
structure EnvOk (w : World) : Prop where
  signs : SignsOk w
  syn : ∃ tp p, w.var? Tryd.prog "strconv.ErrSyntax" = some #[.iface tp p]
  rng : ∃ tp p, w.var? Tryd.prog "strconv.ErrRange" = some #[.iface tp p]
  tab : Lib.TabIs Tryd.prog w "internal/strconv.uint64pow10" .u64 Lib.pow10Tab
theorem EnvOk.later {w w' : World} (h : EnvOk w) (hb : Below w.heap.size w w') : EnvOk w' :=
  ⟨h.signs.later hb, h.syn.imp fun _ ⟨p, hp⟩ => ⟨p, var_later hp hb⟩, h.rng.imp fun _ ⟨p, hp⟩ => ⟨p, var_later hp hb⟩, var_later h.tab hb⟩
theorem i2b_bl (s : ByteArray) : i2b (blK s) = s.data.toList := i2b_map _
theorem atoi_ok (s : ByteArray) (hmax : s.size ≤ 281474976710656) (v : Int) (h : Lib.atoiAll s.data.toList = .ok v) (w : World) :
    Calls Tryd.prog 63 #[.string s] w fun e w' => e = .returned (.tuple #[.int .i64 v, .nilIface]) ∧ Below w.heap.size w w' :=
  (Any.strconv_Atoi_ok Tryd.atoiL s (by omega) v h w).mono fun e w' ⟨he, hw⟩ => ⟨he, by
    rcases hw with rfl | ⟨t, rfl⟩
    · exact Below.refl _ _
    · exact Lib.bytesWorld_below _ _ _⟩
theorem atoi_bad (s : ByteArray) (hlim : s.size ≤ 281474976710656) (h : ∀ v, Lib.atoiAll s.data.toList ≠ .ok v) (w : World) (hE : EnvOk w) :
    Calls Tryd.prog 63 #[.string s] w fun e w' => ∃ (x : Int) (N : Nat), e = .returned (.tuple #[.int .i64 x, .iface 119 (.pointer (some ⟨N, 0, none⟩))]) ∧ Below w.heap.size w w' := by
  cases e : Lib.atoiAll s.data.toList with
  | ok v => exact absurd e (h v)
  | «syntax» =>
    obtain ⟨tp, p, hv⟩ := hE.syn
    exact (Any.strconv_Atoi_syntax_var Tryd.atoiL s hlim e tp p w hv).mono fun e w' ⟨N, he, _, _, hb⟩ => ⟨0, N, he, hb⟩
  | range =>
    obtain ⟨tp, p, hv⟩ := hE.rng
    exact (Any.strconv_Atoi_range_var Tryd.atoiL s hlim e tp p w hv).mono fun e w' ⟨N, he, _, _, hb⟩ => ⟨_, N, he, hb⟩
theorem itoa_any (n : Int) (h0 : -9223372036854775808 ≤ n) (h1 : n ≤ 9223372036854775807) (w : World) (hE : EnvOk w) :
    Calls Tryd.prog 64 #[.int .i64 n] w fun e w' => e = .returned (.string ⟨(Lib.itoa n).toArray⟩) ∧ Below w.heap.size w w' :=
  (Any.strconv_Itoa Tryd.itoaL n h0 h1 w hE.tab).mono fun e w' ⟨he, k, os, hw⟩ => ⟨he, by rw [hw]; exact Lib.below_grow _ w (Nat.le_refl _) k os⟩
theorem number_any (s : ByteArray) (hs : s.size ≤ 281474976710656) (w : World) (hE : EnvOk w) :
    Calls Tryd.prog 40 #[.string s] w fun e w' => e = .returned (.tuple #[.int .i64 ((num (blK s)).getD 0), .bool (num (blK s)).isSome]) ∧ Below w.heap.size w w' := by
  by_cases hk : ∃ v, Lib.atoiAll s.data.toList = .ok v
  · obtain ⟨v, hv⟩ := hk
    have ca := atoi_ok s hs v hv w
    have hbd := Lib.atoiAll_bounds hv
    have ci := fun (X : World) (h : EnvOk X) => itoa_any v hbd.1 hbd.2 X h
    have HE : Hid (EnvOk w) := hE
    clear hE hbd
    have e1 := str_dec ⟨(Lib.itoa v).toArray⟩ s
    by_cases hq : Lib.itoa v = s.data.toList
    · have hq' : (⟨(Lib.itoa v).toArray⟩ : ByteArray) = s := by rw [hq]
      rw [decide_eq_true hq'] at e1
      have E : num (blK s) = some v := by unfold num; rw [i2b_bl, hv]; exact if_pos hq
      rw [E]
      clear hq hq' E hv
      generalize (⟨(Lib.itoa v).toArray⟩ : ByteArray) = q at *
      go_enter Tryd.func40, Tryd.ntmps40
      go_wp2_with (first | (go_at_call 63; refine ca.mono ?_; rintro e w1 ⟨rfl, hb1⟩; have HB1 : Hid (Below w.heap.size w w1) := hb1; clear hb1) | (go_at_call 64; refine (ci _ (HE.out.later HB1.out)).mono ?_; rintro e w2 ⟨rfl, hb2⟩))
      go_ret2
      exact ⟨ret_2 rfl rfl, HB1.out.trans (hb2.mono HB1.out.size)⟩
    · have hq' : ¬ (⟨(Lib.itoa v).toArray⟩ : ByteArray) = s := fun e => hq (by rw [← e])
      rw [decide_eq_false hq'] at e1
      have E : num (blK s) = none := by unfold num; rw [i2b_bl, hv]; exact if_neg hq
      rw [E]
      clear hq hq' E hv
      generalize (⟨(Lib.itoa v).toArray⟩ : ByteArray) = q at *
      go_enter Tryd.func40, Tryd.ntmps40
      go_wp2_with (first | (go_at_call 63; refine ca.mono ?_; rintro e w1 ⟨rfl, hb1⟩; have HB1 : Hid (Below w.heap.size w w1) := hb1; clear hb1) | (go_at_call 64; refine (ci _ (HE.out.later HB1.out)).mono ?_; rintro e w2 ⟨rfl, hb2⟩))
      go_ret2
      exact ⟨ret_2 rfl rfl, HB1.out.trans (hb2.mono HB1.out.size)⟩
  · have ca := atoi_bad s hs (fun v h => hk ⟨v, h⟩) w hE
    have E : num (blK s) = none := by
      unfold num
      rw [i2b_bl]
      cases e : Lib.atoiAll s.data.toList with
      | ok v => exact absurd ⟨v, e⟩ hk
      | «syntax» => rfl
      | range => rfl
    rw [E]
    clear hk E hE
    go_enter Tryd.func40, Tryd.ntmps40
    go_wp2_with (go_at_call 63; refine ca.mono ?_; rintro e w1 ⟨x, N, rfl, hb1⟩)
    go_ret2
    exact ⟨ret_2 rfl rfl, hb1⟩
end Go.Proofs.YtdfdnjkeiddfjaaDoor
