import Derived.Test.YtechceagghcipaaGreatDoorAA0
import Derived.Test.YtechceagghcipaaGreatDoorEG3
import Derived.Test.YtechceagghcipaaGreatDoorA2
import Derived.Test.YtechceagghcipaaGreatDoorCL14
namespace Go.Proofs.YtechceagghcipaaGreatDoor
open Go.RowKit
attribute [local go_sem ↓] Go.wp_at_zero Go.wp_at_succ

theorem wfI8 {k : Int} (h1 : -9223372036854775808 <= k) (h2 : k <= 9223372036854775807) : (Lit.int .i64 k).wf = true := by
 have e1 : IntKind.i64.min = -9223372036854775808 := by decide
 have e2 : IntKind.i64.max = 9223372036854775807 := by decide
 simp only [Lit.wf, e1, e2, Bool.and_eq_true, decide_eq_true_eq]
 exact ⟨h1, h2⟩
theorem keyT_of {k n : Int} {s : ByteArray} (h1 : -9223372036854775808 <= k) (h2 : k <= 9223372036854775807) (h3 : -9223372036854775808 <= n) (h4 : n <= 9223372036854775807) (h5 : s.size <= 1000000000) : KeyT ⟨k, n, s⟩ := ⟨wfI8 h1 h2, wfI8 h3 h4, by show s.size <= maxLen; unfold maxLen; omega⟩
theorem p8_pl : (p8 5).pl = [⟨0, 0, ⟨#[]⟩⟩, ⟨1, 5, ⟨#[]⟩⟩] := rfl
theorem p8_keys : ∀ t ∈ (p8 5).pl, KeyT t := fun t ht => by
 rw [p8_pl] at ht
 rcases List.mem_cons.1 ht with rfl | ht
 ·exact keyT_of (by decide) (by decide) (by decide) (by decide) (by decide)
 ·obtain rfl := List.mem_singleton.1 ht
  exact keyT_of (by decide) (by decide) (by decide) (by decide) (by decide)
theorem p8_keyp : KeyP (p8 5).pd8 := ⟨by show (ByteArray.mk #[112]).size <= maxLen; unfold maxLen; decide, wfI8 (by decide) (by decide)⟩
theorem p8_fact : (p8 5).fact = true := by decide
theorem TBlk.tsP8 {w : World} {g : Nat} {l : List Tm} {n : Nat} (hn : n = l.length) (hl : n <= 4398046511104) (h : TBlk w g l n) : TsP w (.slice (some ⟨g, 0, none⟩) n n) l := (h.own hn hl (Nat.zero_le _)).tsP
set_option maxRecDepth 20000 in
set_option maxHeartbeats 1000000 in
theorem first8_any (Y : World) : Calls Tryz.prog 15 #[] Y fun e Y' => e = .returned (.bool true) /\ Below Y.heap.size Y Y' := by
 go_enter Tryz.func15, Tryz.ntmps15
 go_upto_region 4 with (go_at_call 16; refine (bp_new Y Y (Below.refl _ _)).mono ?_; rintro e W1 ⟨g, A, rfl, h1, -, -⟩; have H1 := hm7 h1; clear h1)
 go_upto_region 5 with (first | (go_at_call 14; refine (lfact8_any 5 _).mono ?_; rintro e W2 ⟨B1, rfl, ht, -, hb⟩; have HT1 := hm7 (TBlk.tsP8 rfl (by decide) ht); have H2 := hm7 (H1.out.below hb); clear ht hb H1) | (go_at_call 10; refine (bp_add H2.out (p8 5) _ HT1.out p8_fact p8_keys p8_keyp (by decide) (by decide) (by decide)).mono ?_; rintro e W3 ⟨c, hc, rfl, A3, h3, -, -⟩; clear HT1 H2; obtain rfl : c = true := hc.2 (by simp); have H3 := hm7 h3; clear h3 hc))
 go_upto_region 6 with (first | (go_at_call 14; refine (lfact8_any 5 _).mono ?_; rintro e W4 ⟨B2, rfl, ht, -, hb⟩; have HT2 := hm7 (TBlk.tsP8 rfl (by decide) ht); have H4 := hm7 (H3.out.below hb); clear ht hb H3) | (go_at_call 10; refine (bp_add H4.out (p8 5) _ HT2.out p8_fact p8_keys p8_keyp (by decide) (by decide) (by decide)).mono ?_; rintro e W5 ⟨c, hc, rfl, A5, h5, -, -⟩; clear HT2 H4; obtain rfl : c = false := (Bool.eq_false_iff.2 fun h => hc.1 h (by simp [aE8])); have H5 := hm7 h5; clear h5 hc))
 have e5 : aE8 (aE8 [] (p8 5)) (p8 5) = [(p8 5, 4)] := by simp [aE8]
 rw [e5] at H5
 clear e5
 go_upto_region 7 with (go_at_call 11; refine (bp_turn H5.out (by decide)).mono ?_; rintro e W6 ⟨rfl, A6, h6, -, -⟩; have H6 := hm7 h6; clear h6 H5)
 have e6 : (((([(p8 5, (4 : Int))] : List (At × Int)).filter fun x => hp7 4 x.2).length : Nat) : Int) = 1 := by decide
 have e7 : (([(p8 5, (4 : Int))] : List (At × Int)).map fun x => (x.1, tE8 x.2)) = [(p8 5, 2)] := by simp [tE8]
 rw [e6]
 rw [e7] at H6
 clear e6 e7
 go_upto_region 8 with (go_at_call 17; refine (bp_facts H6.out 2 (by decide) (by decide)).mono ?_; rintro e W ⟨fv, Q, A7, rfl, q1, -, q3, q4, -, -, -⟩; have H7 := hm7 q1; have HP := hm7 q3; have HB := hm7 q4.bl; clear q1 q3 q4 H6)
 have e8 : ((([(p8 5, (2 : Int))] : List (At × Int)).filter fun x => hp7 2 x.2).map Prod.fst) = [p8 5] := by
  have : hp7 2 2 = true := by decide
  simp [this]
 obtain ⟨ab, rfl⟩ : ∃ ab, Q = [(p8 5, ab)] := by
  have h := HP.out
  rw [e8] at h
  have h2 := List.perm_singleton.1 h
  match Q, h2 with
  | [(x, ab)], h2 => exact ⟨ab, by rw [List.cons.inj h2 |>.1 |> (show x = p8 5 from ·)]⟩
 clear HP e8
 have h7 := H7.out
 have ho := h7.o.a
 have ht := (h7.t _ (List.mem_singleton.2 rfl)).1
 obtain ⟨gb, cap, rfl, hcap⟩ : ∃ g cap, fv = .slice (some ⟨g, 0, none⟩) 1 cap /\ 1 <= cap := by
  rcases ho.2 with ⟨-, h⟩ | ⟨g, cap, cur, rfl, -, -, hn, -⟩
  ·cases h
  ·exact ⟨g, cap, rfl, hn⟩
 have HR : Hid (∀ w', Below W.heap.size W w' -> ∀ i, i < 5 -> w'.cell? ⟨gb, i, none⟩ = (acell (enc8 (p8 5, ab)))[i]?) := fun w' h i hi => by
  have := (ho.later h).cells 0 _ rfl i hi
  simpa using this
 have HR0 : Hid (∀ w', Below W.heap.size W w' -> w'.cell? ⟨gb, 0, none⟩ = some (.int .i64 0)) := fun w' h => HR.out w' h 0 (by decide)
 have HR1 : Hid (∀ w', Below W.heap.size W w' -> w'.cell? ⟨gb, 1, none⟩ = some (.int .i64 0)) := fun w' h => HR.out w' h 1 (by decide)
 have HR2 : Hid (∀ w', Below W.heap.size W w' -> w'.cell? ⟨gb, 2, none⟩ = some (.string ⟨#[]⟩)) := fun w' h => HR.out w' h 2 (by decide)
 have HR3 : Hid (∀ w', Below W.heap.size W w' -> w'.cell? ⟨gb, 3, none⟩ = some (.string ⟨#[112]⟩)) := fun w' h => HR.out w' h 3 (by decide)
 have HR4 : Hid (∀ w', Below W.heap.size W w' -> w'.cell? ⟨gb, 4, none⟩ = some (.slice (some ⟨ab, 0, none⟩) 1 1)) := fun w' h => HR.out w' h 4 (by decide)
 have HSA : Hid (∀ (w' : World) (B : Nat), Below W.heap.size W w' -> TBlk w' B [⟨1, 5, ⟨#[]⟩⟩] 1 -> Calls Tryz.prog 13 #[.agg #[.int .i64 0, .int .i64 0, .string ⟨#[]⟩, .string ⟨#[112]⟩, .slice (some ⟨ab, 0, none⟩) 1 1], .agg #[.int .i64 0, .int .i64 0, .string ⟨#[]⟩, .string ⟨#[112]⟩, .slice (some ⟨B, 0, none⟩) 1 1]] w' fun e Y' => e = .returned (.bool true) /\ Below w'.heap.size w' Y') := fun w' B hw hB => by
  have := sameAtom_any (p8 5) (p8 5) (.slice (some ⟨ab, 0, none⟩) 1 1) (.slice (some ⟨B, 0, none⟩) 1 1) w' (TBlk.ts rfl (by decide) (ht.later hw)) (TBlk.ts rfl (by decide) hB)
  rw [decide_eq_true rfl] at this
  exact this
 clear h7 ho ht HR H7
 refine wp_region_held_drew (S := fun w' => Below W.heap.size W w') (by kernel_rfl) (by exact (Below.refl _ _).drew) (fun hH => ?_)
 revert hH
 generalize W.drew = V
 intro hH
 refine wTk 0 (.bool true) rfl (by kernel_rfl) (fun _ _ _ h => h) (Or.inl ⟨by rfl, fun w' h => by clear h; go_simp⟩) hH ?_
 simp only [wA8, wB8, wC8, wD8]
 refine wTk 1 (.bool true) rfl (by kernel_rfl) (fun _ _ _ h => h) (Or.inl ⟨by rfl, fun w' h => by clear h; go_simp⟩) hH ?_
 simp only [wA8, wB8, wC8, wD8]
 refine wTk 2 (.bool false) rfl (by kernel_rfl) (fun _ _ _ h => h) (Or.inl ⟨by rfl, fun w' h => by clear h; go_simp⟩) hH ?_
 simp only [wA8, wB8, wC8, wD8]
 refine wTk 3 (.bool true) rfl (by kernel_rfl) (fun _ _ _ h => h) (Or.inl ⟨by rfl, fun w' h => by clear h; go_simp⟩) hH ?_
 simp only [wA8, wB8, wC8, wD8]
 refine wTk 4 (.bool true) rfl (by kernel_rfl) (fun _ _ _ h => h) (Or.inl ⟨by rfl, fun w' h => by clear h; go_simp⟩) hH ?_
 simp only [wA8, wB8, wC8, wD8]
 refine wTk 5 (.bool true) rfl (by kernel_rfl) (fun _ _ _ h => h) (Or.inl ⟨by rfl, fun w' h => by clear h; go_simp⟩) hH ?_
 simp only [wA8, wB8, wC8, wD8]
 refine wTk 6 (.int .i64 0) rfl (by kernel_rfl) (fun _ _ _ h => h) (Or.inl ⟨by rfl, fun w' h => by clear h; go_simp⟩) hH ?_
 simp only [wA8, wB8, wC8, wD8]
 refine wTk 7 (.bool true) rfl (by kernel_rfl) (fun _ _ _ h => h) (Or.inl ⟨by rfl, fun w' h => by clear h; go_simp⟩) hH ?_
 simp only [wA8, wB8, wC8, wD8]
 refine wTk 8 (.bool true) rfl (by kernel_rfl) (fun _ _ _ h => h) (Or.inl ⟨by rfl, fun w' h => by clear h; go_simp⟩) hH ?_
 simp only [wA8, wB8, wC8, wD8]
 refine wTk 9 (.bool true) rfl (by kernel_rfl) (fun _ _ _ h => h) (Or.inl ⟨by rfl, fun w' h => by clear h; go_simp⟩) hH ?_
 simp only [wA8, wB8, wC8, wD8]
 refine wTk 10 (.int .i64 0) rfl (by kernel_rfl) (fun _ _ _ h => h) (Or.inl ⟨by rfl, fun w' h => by clear h; go_simp⟩) hH ?_
 simp only [wA8, wB8, wC8, wD8]
 refine wTk 11 (.bool true) rfl (by kernel_rfl) (fun _ _ _ h => h) (Or.inl ⟨by rfl, fun w' h => by clear h; go_simp⟩) hH ?_
 simp only [wA8, wB8, wC8, wD8]
 refine wTk 12 (.bool true) rfl (by kernel_rfl) (fun _ _ _ h => h) (Or.inl ⟨by rfl, fun w' h => by clear h; go_simp⟩) hH ?_
 simp only [wA8, wB8, wC8, wD8]
 refine wTk 13 (.bool true) rfl (by kernel_rfl) (fun _ _ _ h => h) (Or.inl ⟨by rfl, fun w' h => by clear h; go_simp⟩) hH ?_
 simp only [wA8, wB8, wC8, wD8]
 refine wTk 14 (.int .i64 1) rfl (by kernel_rfl) (fun _ _ _ h => h) (Or.inl ⟨by rfl, fun w' h => by clear h; go_simp⟩) hH ?_
 simp only [wA8, wB8, wC8, wD8]
 refine wTk 15 (.bool true) rfl (by kernel_rfl) (fun _ _ _ h => h) (Or.inl ⟨by rfl, fun w' h => by clear h; go_simp⟩) hH ?_
 simp only [wA8, wB8, wC8, wD8]
 refine wTk 16 (.bool true) rfl (by kernel_rfl) (fun _ _ _ h => h) (Or.inl ⟨by rfl, fun w' h => by clear h; go_simp⟩) hH ?_
 simp only [wA8, wB8, wC8, wD8]
 refine wTk 17 (.bool true) rfl (by kernel_rfl) (fun _ _ _ h => h) (Or.inl ⟨by rfl, fun w' h => by clear h; go_simp⟩) hH ?_
 simp only [wA8, wB8, wC8, wD8]
 refine wTk 18 (.slice (some ⟨gb, 0, none⟩) 1 cap) rfl (by kernel_rfl) (fun _ _ _ h => h) (Or.inl ⟨by rfl, fun w' h => by clear h; go_simp⟩) hH ?_
 simp only [wA8, wB8, wC8, wD8]
 refine wTk 19 (.int .i64 1) rfl (by kernel_rfl) (fun _ _ _ h => h) (Or.inl ⟨by rfl, fun w' h => by clear h; go_simp⟩) hH ?_
 simp only [wA8, wB8, wC8, wD8]
 refine wTk 20 (.bool true) rfl (by kernel_rfl) (fun _ _ _ h => h) (Or.inl ⟨by rfl, fun w' h => by clear h; go_simp⟩) hH ?_
 simp only [wA8, wB8, wC8, wD8]
 refine wTk 21 (.bool true) rfl (by kernel_rfl) (fun _ _ _ h => h) (Or.inl ⟨by rfl, fun w' h => by clear h; go_simp⟩) hH ?_
 simp only [wA8, wB8, wC8, wD8]
 refine wTk 22 (.bool true) rfl (by kernel_rfl) (fun _ _ _ h => h) (Or.inl ⟨by rfl, fun w' h => by clear h; go_simp⟩) hH ?_
 simp only [wA8, wB8, wC8, wD8]
 refine wTk 23 (.slice (some ⟨gb, 0, none⟩) 1 cap) rfl (by kernel_rfl) (fun _ _ _ h => h) (Or.inl ⟨by rfl, fun w' h => by clear h; go_simp⟩) hH ?_
 simp only [wA8, wB8, wC8, wD8]
 refine wTk 24 (.pointer (some ⟨gb, 0, none⟩)) rfl (by kernel_rfl) (fun _ _ _ h => h) (Or.inl ⟨by rfl, fun w' h => by clear h; go_simp⟩) hH ?_
 simp only [wA8, wB8, wC8, wD8]
 refine wTk 25 (.agg #[.int .i64 0, .int .i64 0, .string ⟨#[]⟩, .string ⟨#[112]⟩, .slice (some ⟨ab, 0, none⟩) 1 1]) rfl (by kernel_rfl) (fun _ _ _ h => h) (Or.inl ⟨by rfl, fun w' h => by have a0 := HR0.out w' h; have a1 := HR1.out w' h; have a2 := HR2.out w' h; have a3 := HR3.out w' h; have a4 := HR4.out w' h; clear h; go_simp⟩) hH ?_
 simp only [wA8, wB8, wC8, wD8]
 refine wRd 26 (by kernel_rfl) rfl (fun K hK => ?_)
 go_simp
 refine (lfact8_any 5 _).mono ?_
 rintro e V1 ⟨A5, rfl, hA5, -, hb⟩
 have HA5 := hm7 hA5
 clear hA5
 refine hK.out _ _ (hH.trans (hb.mono hH.size)) (fun hH => ?_)
 clear hK hb
 try simp only [wA8, wB8, wC8, wD8]
 refine wRd 27 (by kernel_rfl) rfl (fun K hK => ?_)
 go_simp
 refine (HSA.out _ A5 hH HA5.out).mono ?_
 rintro e V2 ⟨rfl, hb⟩
 refine hK.out _ _ (hH.trans (hb.mono hH.size)) (fun hH => ?_)
 clear hK hb
 try simp only [wA8, wB8, wC8, wD8]
 refine wTk 28 (.bool true) rfl (by kernel_rfl) (fun _ _ _ h => h) (Or.inl ⟨by rfl, fun w' h => by clear h; go_simp⟩) hH ?_
 simp only [wA8, wB8, wC8, wD8]
 refine wTk 29 (.bool true) rfl (by kernel_rfl) (fun _ _ _ h => h) (Or.inl ⟨by rfl, fun w' h => by clear h; go_simp⟩) hH ?_
 simp only [Act.put, List.setIfInBounds_toArray, List.set_cons_zero]
 refine wpAnyH_done (by kernel_rfl) ?_ _
 have HV := hm7 hH
 clear hH
 go_wp2
 go_ret
 exact ⟨rfl, HB.out.trans (HV.out.mono HB.out.size)⟩
end Go.Proofs.YtechceagghcipaaGreatDoor
