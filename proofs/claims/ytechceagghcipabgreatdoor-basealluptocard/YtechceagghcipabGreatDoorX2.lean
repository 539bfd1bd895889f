import Derived.Test.YtechceagghcipabGreatDoorRA2
import Derived.Test.YtechceagghcipabGreatDoorX1
namespace Go.Proofs.YtechceagghcipabGreatDoor
open Go.RowKit
attribute [local go_sem ↓] Go.wp_at_zero Go.wp_at_succ
theorem fr_last {out : List Bd} {m : Nat} {d : Bd} (hm : out.length = m + 1) (hd : out[m]? = some d) (x : Int) : fr out x = decide (d.x < x) := by
 unfold fr
 rw [List.getLast?_eq_getElem?, show out.length - 1 = m by omega, hd]
set_option maxRecDepth 20000 in
set_option maxHeartbeats 4000000 in
theorem settled_any (s : List Bd) (v : Value) (w : World) (h : Bs w v s) (hs : s.length <= 2000000000000) :
  Calls Tryz.prog 93 #[v] w fun e w' => ∃ v' l, e = .returned v' /\ Own w' w.heap.size v' l /\ up l /\ (∀ x, look l x = look s x) /\ l.length <= s.length /\ Below w.heap.size w w' := by
 obtain ⟨i0, hi0, hz0, hz1, hz2⟩ := info_parts Tryz.infoBind
 obtain ⟨ad, cap, rfl, hl, hrow⟩ := h
 have HRow : Hid (s = [] ∨ ∃ b o, ad = some ⟨b, o, none⟩ /\ BRow w b o s) := hrow
 clear hrow
 go_enter Tryz.func93, Tryz.ntmps93
 go_wp2
 go_loopg [3] s.length (fun g u wr => ∃ out, Own wr w.heap.size u out /\ SInv s out /\ cnt s out <= g /\ out.length + g <= s.length /\ Below w.heap.size w wr)
 case atStart => exact ⟨[], own_nil _ _, sinv_start s, by unfold cnt; exact List.length_filter_le _ _, by simp, Below.refl _ _⟩
 case round =>
  obtain ⟨out, hown, hinv, hcnt, hlen, hbw⟩ := hrel
  obtain ⟨G, hG⟩ : ∃ G, G = gk := ⟨_, rfl⟩
  subst hG
  obtain ⟨W, hW⟩ : ∃ W, W = wr := ⟨_, rfl⟩
  subst hW
  obtain ⟨ua, uc, rfl⟩ := own_len hown
  have HO : Hid (Own W w.heap.size (.slice ua out.length uc) out) := hown
  have HI : Hid (SInv s out) := hinv
  clear hown hinv
  go_wp2
  go_loopg [4, 5] s.length (fun g a i wr => ∃ (j : Nat) (z : Int), j + g = s.length /\ i = .int .i64 j /\ a = .int .i64 z /\ AtI s out j z /\ Below W.heap.size W wr)
  case atStart => exact ⟨0, -1, by omega, rfl, rfl, Or.inl ⟨rfl, fun i e hi => by omega⟩, Below.refl _ _⟩
  case round =>
   obtain ⟨j, z, hj, rfl, rfl, hat, hbr⟩ := hrel
   have HAt : Hid (AtI s out j z) := hat
   clear hat
   have hwr := below_step hbw hbr
   cases gk with
   | succ g =>
    have hlt : j < s.length := by omega
    rcases HRow.out with h | ⟨b, o, rfl, hbs, hr⟩
    ·subst h; simp at hlt
    have HR : Hid (∀ (i : Nat) (d : Bd), s[i]? = some d -> w.cell? ⟨b, o + i * 4, none⟩ = some (.int .i64 d.x)) := fun i d hd => (hr i d hd).1
    obtain ⟨⟨ex, et⟩, he⟩ : ∃ d, s[j]? = some d := ⟨_, List.getElem?_eq_getElem hlt⟩
    have ce := cell_step hwr hbs (HR.out j _ he)
    have bW := lt_step hwr hbs
    have HE : Hid (s[j]? = some ⟨ex, et⟩) := he
    simp only at ce
    clear hr he
    have i1 : (0 : Int) <= (j : Int) := by omega
    have i2 : (j : Int) < (s.length : Int) := by omega
    obtain ⟨f, hf⟩ : ∃ f, fr out ex = f := ⟨_, rfl⟩
    have HF : Hid (fr out ex = f) := hf
    clear hf
    go_upto_region 6 with fail
    go_cut [6] from 13 to 30 (fun s6 wx => s6 = .bool f /\ Below wr.heap.size wr wx)
    case first =>
     by_cases h0 : out.length = 0
     ·have q0 : ((out.length : Int) == 0) = true := by simp [h0]
      have hft : Hid (f = true) := by
       show f = true
       rw [<- HF.out, List.length_eq_zero_iff.1 h0]; rfl
      clear h0
      refine wp_region_held_drew (S := fun w' => Below wr.heap.size wr w') (by kernel_rfl) (Below.refl _ _).drew (fun hH => ?_)
      revert hH
      generalize wr.drew = V
      intro hH
      refine wTl 0 (.slice ua out.length uc) rfl (by kernel_rfl) (fun _ _ _ h => h) rfl (fun w' _ => by go_simp) hH ?_
      simp only [wA, wB, wC, wD]
      refine wTl 1 (.int .i64 out.length) rfl (by kernel_rfl) (fun _ _ _ h => h) rfl (fun w' _ => by go_simp) hH ?_
      simp only [wA, wB, wC, wD]
      refine wTl 2 (.bool true) rfl (by kernel_rfl) (fun _ _ _ h => h) rfl (fun w' _ => by go_simp) hH ?_
      simp only [wA, wB, wC, wD]
      refine wTl 3 (.bool true) rfl (by kernel_rfl) (fun _ _ _ h => h) rfl (fun w' _ => by go_simp) hH ?_
      simp only [wA, wB, wC, wD]
      refine wTk 4 (undef) rfl (by kernel_rfl) (fun _ _ _ h => h) (Or.inr ⟨by rfl, rfl⟩) hH ?_
      simp only [wA, wB, wC, wD]
      refine wTk 5 (undef) rfl (by kernel_rfl) (fun _ _ _ h => h) (Or.inr ⟨by rfl, rfl⟩) hH ?_
      simp only [wA, wB, wC, wD]
      refine wTk 6 (undef) rfl (by kernel_rfl) (fun _ _ _ h => h) (Or.inr ⟨by rfl, rfl⟩) hH ?_
      simp only [wA, wB, wC, wD]
      refine wTk 7 (undef) rfl (by kernel_rfl) (fun _ _ _ h => h) (Or.inr ⟨by rfl, rfl⟩) hH ?_
      simp only [wA, wB, wC, wD]
      refine wTk 8 (undef) rfl (by kernel_rfl) (fun _ _ _ h => h) (Or.inr ⟨by rfl, rfl⟩) hH ?_
      simp only [wA, wB, wC, wD]
      refine wTk 9 (undef) rfl (by kernel_rfl) (fun _ _ _ h => h) (Or.inr ⟨by rfl, rfl⟩) hH ?_
      simp only [wA, wB, wC, wD]
      refine wTk 10 (undef) rfl (by kernel_rfl) (fun _ _ _ h => h) (Or.inr ⟨by rfl, rfl⟩) hH ?_
      simp only [wA, wB, wC, wD]
      refine wTk 11 (undef) rfl (by kernel_rfl) (fun _ _ _ h => h) (Or.inr ⟨by rfl, rfl⟩) hH ?_
      simp only [wA, wB, wC, wD]
      refine wTk 12 (undef) rfl (by kernel_rfl) (fun _ _ _ h => h) (Or.inr ⟨by rfl, rfl⟩) hH ?_
      simp only [wA, wB, wC, wD]
      refine wTk 13 (undef) rfl (by kernel_rfl) (fun _ _ _ h => h) (Or.inr ⟨by rfl, rfl⟩) hH ?_
      simp only [wA, wB, wC, wD]
      refine wTk 14 (undef) rfl (by kernel_rfl) (fun _ _ _ h => h) (Or.inr ⟨by rfl, rfl⟩) hH ?_
      simp only [wA, wB, wC, wD]
      refine wTk 15 (undef) rfl (by kernel_rfl) (fun _ _ _ h => h) (Or.inr ⟨by rfl, rfl⟩) hH ?_
      simp only [wA, wB, wC, wD]
      refine wTk 16 (undef) rfl (by kernel_rfl) (fun _ _ _ h => h) (Or.inr ⟨by rfl, rfl⟩) hH ?_
      simp only [wA, wB, wC, wD]
      refine wTl 17 (.bool true) rfl (by kernel_rfl) (fun _ _ _ h => h) rfl (fun w' _ => by go_simp) hH ?_
      simp only [wA, wB, wC, wD]
      refine wTl 18 (.bool true) rfl (by kernel_rfl) (fun _ _ _ h => h) rfl (fun w' _ => by go_simp) hH ?_
      simp only [wA, wB, wC, wD]
      refine wpAnyH_done (by kernel_rfl) ?_ _
      go_wp2_with fail
      go_meet
      case rel => exact ⟨by rw [hft.out], hH⟩
     ·obtain ⟨m, hm⟩ : ∃ m, out.length = m + 1 := ⟨out.length - 1, by omega⟩
      have q0 : ((out.length : Int) == 0) = false := beq_eq_false_iff_ne.2 (by omega)
      obtain ⟨⟨lx, lt⟩, hd⟩ : ∃ d, out[m]? = some d := ⟨_, List.getElem?_eq_getElem (by omega)⟩
      have hfd : Hid (f = decide (lx < ex)) := by show f = _; rw [<- HF.out]; exact fr_last hm hd ex
      obtain ⟨gg, cc, hv, -, hgl⟩ := own_form HO.out (by omega)
      simp only [Value.slice.injEq, true_and] at hv
      obtain ⟨rfl, rfl⟩ := hv
      have cl := cell_step hbr hgl (own_cells HO.out m _ hd).1
      have gW := lt_step hbr hgl
      simp only at cl
      have k1 : ((out.length : Int) - 1) = (m : Int) := by omega
      have k2 : (0 : Int) <= (m : Int) := by omega
      have k3 : (m : Int) < (out.length : Int) := by omega
      have k5 : IntKind.i64.wrap (m : Int) = (m : Int) := by rw [IntKind.wrap_i64]; omega
      clear h0 hm hd
      refine wp_region_held_drew (S := fun w' => Below wr.heap.size wr w') (by kernel_rfl) (Below.refl _ _).drew (fun hH => ?_)
      revert hH
      generalize wr.drew = V
      intro hH
      refine wTl 0 (.slice (some ⟨gg, 0, none⟩) out.length uc) rfl (by kernel_rfl) (fun _ _ _ h => h) rfl (fun w' _ => by go_simp) hH ?_
      simp only [wA, wB, wC, wD]
      refine wTl 1 (.int .i64 out.length) rfl (by kernel_rfl) (fun _ _ _ h => h) rfl (fun w' _ => by go_simp) hH ?_
      simp only [wA, wB, wC, wD]
      refine wTl 2 (.bool false) rfl (by kernel_rfl) (fun _ _ _ h => h) rfl (fun w' _ => by go_simp) hH ?_
      simp only [wA, wB, wC, wD]
      refine wTl 3 (.bool false) rfl (by kernel_rfl) (fun _ _ _ h => h) rfl (fun w' _ => by go_simp) hH ?_
      simp only [wA, wB, wC, wD]
      refine wTl 4 (.slice (some ⟨b, o, none⟩) s.length cap) rfl (by kernel_rfl) (fun _ _ _ h => h) rfl (fun w' _ => by go_simp) hH ?_
      simp only [wA, wB, wC, wD]
      refine wTl 5 (.int .i64 j) rfl (by kernel_rfl) (fun _ _ _ h => h) rfl (fun w' _ => by go_simp) hH ?_
      simp only [wA, wB, wC, wD]
      refine wTl 6 (.pointer (some ⟨b, o + j * 4, none⟩)) rfl (by kernel_rfl) (fun _ _ _ h => h) rfl (fun w' _ => by go_simp) hH ?_
      simp only [wA, wB, wC, wD]
      refine wTl 7 (.pointer (some ⟨b, o + j * 4, none⟩)) rfl (by kernel_rfl) (fun _ _ _ h => h) rfl (fun w' _ => by go_simp) hH ?_
      simp only [wA, wB, wC, wD]
      refine wTl 8 (.int .i64 ex) rfl (by kernel_rfl) (fun _ _ _ h => h) rfl (fun w' h => by have a0 := cell_step h bW ce; go_simp) hH ?_
      simp only [wA, wB, wC, wD]
      refine wTl 9 (.slice (some ⟨gg, 0, none⟩) out.length uc) rfl (by kernel_rfl) (fun _ _ _ h => h) rfl (fun w' _ => by go_simp) hH ?_
      simp only [wA, wB, wC, wD]
      refine wTl 10 (.slice (some ⟨gg, 0, none⟩) out.length uc) rfl (by kernel_rfl) (fun _ _ _ h => h) rfl (fun w' _ => by go_simp) hH ?_
      simp only [wA, wB, wC, wD]
      refine wTl 11 (.int .i64 out.length) rfl (by kernel_rfl) (fun _ _ _ h => h) rfl (fun w' _ => by go_simp) hH ?_
      simp only [wA, wB, wC, wD]
      refine wTl 12 (.int .i64 m) rfl (by kernel_rfl) (fun _ _ _ h => h) rfl (fun w' _ => by go_simp) hH ?_
      simp only [wA, wB, wC, wD]
      refine wTl 13 (.pointer (some ⟨gg, m * 4, none⟩)) rfl (by kernel_rfl) (fun _ _ _ h => h) rfl (fun w' _ => by go_simp) hH ?_
      simp only [wA, wB, wC, wD]
      refine wTl 14 (.pointer (some ⟨gg, m * 4, none⟩)) rfl (by kernel_rfl) (fun _ _ _ h => h) rfl (fun w' _ => by go_simp) hH ?_
      simp only [wA, wB, wC, wD]
      refine wTl 15 (.int .i64 lx) rfl (by kernel_rfl) (fun _ _ _ h => h) rfl (fun w' h => by have a0 := cell_step h gW cl; go_simp) hH ?_
      simp only [wA, wB, wC, wD]
      refine wTl 16 (.bool (decide (lx < ex))) rfl (by kernel_rfl) (fun _ _ _ h => h) rfl (fun w' _ => by go_simp) hH ?_
      simp only [wA, wB, wC, wD]
      refine wTl 17 (.bool (decide (lx < ex))) rfl (by kernel_rfl) (fun _ _ _ h => h) rfl (fun w' _ => by go_simp) hH ?_
      simp only [wA, wB, wC, wD]
      refine wTl 18 (.bool (decide (lx < ex))) rfl (by kernel_rfl) (fun _ _ _ h => h) rfl (fun w' _ => by go_simp) hH ?_
      simp only [wA, wB, wC, wD]
      refine wpAnyH_done (by kernel_rfl) ?_ _
      go_wp2_with fail
      go_meet
      case rel => exact ⟨by rw [hfd.out], hH⟩
    case rest =>
     obtain ⟨rfl, hbc⟩ := hcut
     have hbc2 := below_step hbr hbc
     have ce2 := cell_step hbc bW ce
     have bW2 := lt_step hbc bW
     clear ce bW hbr hwr
     have hwc := below_step hbw hbc2
     cases f with
     | false =>
      go_upto_region 7 with fail
      refine wp_region_held_drew (S := fun w' => Below wc.heap.size wc w') (by kernel_rfl) (Below.refl _ _).drew (fun hH => ?_)
      revert hH
      generalize wc.drew = V
      intro hH
      refine wTl 0 (.bool false) rfl (by kernel_rfl) (fun _ _ _ h => h) rfl (fun w' _ => by go_simp) hH ?_
      simp only [wA, wB, wC, wD]
      refine wTl 1 (.bool false) rfl (by kernel_rfl) (fun _ _ _ h => h) rfl (fun w' _ => by go_simp) hH ?_
      simp only [wA, wB, wC, wD]
      refine wTk 2 (undef) rfl (by kernel_rfl) (fun _ _ _ h => h) (Or.inr ⟨by rfl, rfl⟩) hH ?_
      simp only [wA, wB, wC, wD]
      refine wTk 3 (undef) rfl (by kernel_rfl) (fun _ _ _ h => h) (Or.inr ⟨by rfl, rfl⟩) hH ?_
      simp only [wA, wB, wC, wD]
      refine wTk 4 (undef) rfl (by kernel_rfl) (fun _ _ _ h => h) (Or.inr ⟨by rfl, rfl⟩) hH ?_
      simp only [wA, wB, wC, wD]
      refine wTk 5 (undef) rfl (by kernel_rfl) (fun _ _ _ h => h) (Or.inr ⟨by rfl, rfl⟩) hH ?_
      simp only [wA, wB, wC, wD]
      refine wTk 6 (undef) rfl (by kernel_rfl) (fun _ _ _ h => h) (Or.inr ⟨by rfl, rfl⟩) hH ?_
      simp only [wA, wB, wC, wD]
      refine wTk 7 (undef) rfl (by kernel_rfl) (fun _ _ _ h => h) (Or.inr ⟨by rfl, rfl⟩) hH ?_
      simp only [wA, wB, wC, wD]
      refine wTk 8 (undef) rfl (by kernel_rfl) (fun _ _ _ h => h) (Or.inr ⟨by rfl, rfl⟩) hH ?_
      simp only [wA, wB, wC, wD]
      refine wTk 9 (undef) rfl (by kernel_rfl) (fun _ _ _ h => h) (Or.inr ⟨by rfl, rfl⟩) hH ?_
      simp only [wA, wB, wC, wD]
      refine wTk 10 (undef) rfl (by kernel_rfl) (fun _ _ _ h => h) (Or.inr ⟨by rfl, rfl⟩) hH ?_
      simp only [wA, wB, wC, wD]
      refine wTk 11 (undef) rfl (by kernel_rfl) (fun _ _ _ h => h) (Or.inr ⟨by rfl, rfl⟩) hH ?_
      simp only [wA, wB, wC, wD]
      refine wTk 12 (undef) rfl (by kernel_rfl) (fun _ _ _ h => h) (Or.inr ⟨by rfl, rfl⟩) hH ?_
      simp only [wA, wB, wC, wD]
      refine wTk 13 (undef) rfl (by kernel_rfl) (fun _ _ _ h => h) (Or.inr ⟨by rfl, rfl⟩) hH ?_
      simp only [wA, wB, wC, wD]
      refine wTk 14 (undef) rfl (by kernel_rfl) (fun _ _ _ h => h) (Or.inr ⟨by rfl, rfl⟩) hH ?_
      simp only [wA, wB, wC, wD]
      refine wTk 15 (undef) rfl (by kernel_rfl) (fun _ _ _ h => h) (Or.inr ⟨by rfl, rfl⟩) hH ?_
      simp only [wA, wB, wC, wD]
      refine wTk 16 (undef) rfl (by kernel_rfl) (fun _ _ _ h => h) (Or.inr ⟨by rfl, rfl⟩) hH ?_
      simp only [wA, wB, wC, wD]
      refine wTl 17 (.bool false) rfl (by kernel_rfl) (fun _ _ _ h => h) rfl (fun w' _ => by go_simp) hH ?_
      simp only [wA, wB, wC, wD]
      refine wpAnyH_done (by kernel_rfl) ?_ _
      have hbX := below_step hbc2 hH
      clear hH
      go_wp2_with fail
      go_roundg g
      case measure => omega
      case rel => exact ⟨j + 1, z, by omega, by go_num, rfl, at_no HAt.out HE.out HF.out, hbX⟩
     | true =>
      rcases HAt.out with ⟨rfl, hno⟩ | ⟨a0, ⟨dx, dt⟩, rfl, h0, h1, h2, h3, h4⟩
      ·go_upto_region 7 with fail
       have HNo : Hid (∀ (i : Nat) (e : Bd), i < j -> s[i]? = some e -> fr out e.x = false) := hno
       clear hno HAt
       refine wp_region_held_drew (S := fun w' => Below wc.heap.size wc w') (by kernel_rfl) (Below.refl _ _).drew (fun hH => ?_)
       revert hH
       generalize wc.drew = V
       intro hH
       refine wTl 0 (.bool true) rfl (by kernel_rfl) (fun _ _ _ h => h) rfl (fun w' _ => by go_simp) hH ?_
       simp only [wA, wB, wC, wD]
       refine wTl 1 (.bool true) rfl (by kernel_rfl) (fun _ _ _ h => h) rfl (fun w' _ => by go_simp) hH ?_
       simp only [wA, wB, wC, wD]
       refine wTl 2 (.int .i64 (-1)) rfl (by kernel_rfl) (fun _ _ _ h => h) rfl (fun w' _ => by go_simp) hH ?_
       simp only [wA, wB, wC, wD]
       refine wTl 3 (.bool true) rfl (by kernel_rfl) (fun _ _ _ h => h) rfl (fun w' _ => by go_simp) hH ?_
       simp only [wA, wB, wC, wD]
       refine wTl 4 (.bool true) rfl (by kernel_rfl) (fun _ _ _ h => h) rfl (fun w' _ => by go_simp) hH ?_
       simp only [wA, wB, wC, wD]
       refine wTk 5 (undef) rfl (by kernel_rfl) (fun _ _ _ h => h) (Or.inr ⟨by rfl, rfl⟩) hH ?_
       simp only [wA, wB, wC, wD]
       refine wTk 6 (undef) rfl (by kernel_rfl) (fun _ _ _ h => h) (Or.inr ⟨by rfl, rfl⟩) hH ?_
       simp only [wA, wB, wC, wD]
       refine wTk 7 (undef) rfl (by kernel_rfl) (fun _ _ _ h => h) (Or.inr ⟨by rfl, rfl⟩) hH ?_
       simp only [wA, wB, wC, wD]
       refine wTk 8 (undef) rfl (by kernel_rfl) (fun _ _ _ h => h) (Or.inr ⟨by rfl, rfl⟩) hH ?_
       simp only [wA, wB, wC, wD]
       refine wTk 9 (undef) rfl (by kernel_rfl) (fun _ _ _ h => h) (Or.inr ⟨by rfl, rfl⟩) hH ?_
       simp only [wA, wB, wC, wD]
       refine wTk 10 (undef) rfl (by kernel_rfl) (fun _ _ _ h => h) (Or.inr ⟨by rfl, rfl⟩) hH ?_
       simp only [wA, wB, wC, wD]
       refine wTk 11 (undef) rfl (by kernel_rfl) (fun _ _ _ h => h) (Or.inr ⟨by rfl, rfl⟩) hH ?_
       simp only [wA, wB, wC, wD]
       refine wTk 12 (undef) rfl (by kernel_rfl) (fun _ _ _ h => h) (Or.inr ⟨by rfl, rfl⟩) hH ?_
       simp only [wA, wB, wC, wD]
       refine wTk 13 (undef) rfl (by kernel_rfl) (fun _ _ _ h => h) (Or.inr ⟨by rfl, rfl⟩) hH ?_
       simp only [wA, wB, wC, wD]
       refine wTk 14 (undef) rfl (by kernel_rfl) (fun _ _ _ h => h) (Or.inr ⟨by rfl, rfl⟩) hH ?_
       simp only [wA, wB, wC, wD]
       refine wTk 15 (undef) rfl (by kernel_rfl) (fun _ _ _ h => h) (Or.inr ⟨by rfl, rfl⟩) hH ?_
       simp only [wA, wB, wC, wD]
       refine wTl 16 (.bool true) rfl (by kernel_rfl) (fun _ _ _ h => h) rfl (fun w' _ => by go_simp) hH ?_
       simp only [wA, wB, wC, wD]
       refine wTl 17 (.bool true) rfl (by kernel_rfl) (fun _ _ _ h => h) rfl (fun w' _ => by go_simp) hH ?_
       simp only [wA, wB, wC, wD]
       refine wpAnyH_done (by kernel_rfl) ?_ _
       have hbX := below_step hbc2 hH
       clear hH
       go_wp2_with fail
       go_roundg g
       case measure => omega
       case rel => exact ⟨j + 1, j, by omega, by go_num, rfl, at_new HNo.out HE.out HF.out, hbX⟩
      ·have cd := cell_step hwc hbs (HR.out a0 _ h1)
       have H0 : Hid (a0 < j /\ s[a0]? = some ⟨dx, dt⟩ /\ fr out dx = true /\ (∀ (i : Nat) (e : Bd), i < j -> s[i]? = some e -> fr out e.x = true -> dx <= e.x) /\ (∀ (i : Nat) (e : Bd), i < a0 -> s[i]? = some e -> ¬ e.x = dx)) := ⟨h0, h1, h2, h3, h4⟩
       have k2 : (0 : Int) <= (a0 : Int) := by omega
       have k3 : (a0 : Int) < (s.length : Int) := by omega
       have k4 : ¬ (a0 : Int) < 0 := by omega
       simp only at cd
       clear h0 h1 h2 h3 h4 HAt
       by_cases hlx : ex < dx
       ·have q9 : decide (ex < dx) = true := decide_eq_true hlx
        have HLX : Hid (ex < dx) := hlx
        clear hlx
        go_upto_region 7 with fail
        refine wp_region_held_drew (S := fun w' => Below wc.heap.size wc w') (by kernel_rfl) (Below.refl _ _).drew (fun hH => ?_)
        revert hH
        generalize wc.drew = V
        intro hH
        refine wTl 0 (.bool true) rfl (by kernel_rfl) (fun _ _ _ h => h) rfl (fun w' _ => by go_simp) hH ?_
        simp only [wA, wB, wC, wD]
        refine wTl 1 (.bool true) rfl (by kernel_rfl) (fun _ _ _ h => h) rfl (fun w' _ => by go_simp) hH ?_
        simp only [wA, wB, wC, wD]
        refine wTl 2 (.int .i64 a0) rfl (by kernel_rfl) (fun _ _ _ h => h) rfl (fun w' _ => by go_simp) hH ?_
        simp only [wA, wB, wC, wD]
        refine wTl 3 (.bool false) rfl (by kernel_rfl) (fun _ _ _ h => h) rfl (fun w' _ => by go_simp) hH ?_
        simp only [wA, wB, wC, wD]
        refine wTl 4 (.bool false) rfl (by kernel_rfl) (fun _ _ _ h => h) rfl (fun w' _ => by go_simp) hH ?_
        simp only [wA, wB, wC, wD]
        refine wTl 5 (.slice (some ⟨b, o, none⟩) s.length cap) rfl (by kernel_rfl) (fun _ _ _ h => h) rfl (fun w' _ => by go_simp) hH ?_
        simp only [wA, wB, wC, wD]
        refine wTl 6 (.int .i64 j) rfl (by kernel_rfl) (fun _ _ _ h => h) rfl (fun w' _ => by go_simp) hH ?_
        simp only [wA, wB, wC, wD]
        refine wTl 7 (.pointer (some ⟨b, o + j * 4, none⟩)) rfl (by kernel_rfl) (fun _ _ _ h => h) rfl (fun w' _ => by go_simp) hH ?_
        simp only [wA, wB, wC, wD]
        refine wTl 8 (.pointer (some ⟨b, o + j * 4, none⟩)) rfl (by kernel_rfl) (fun _ _ _ h => h) rfl (fun w' _ => by go_simp) hH ?_
        simp only [wA, wB, wC, wD]
        refine wTl 9 (.int .i64 ex) rfl (by kernel_rfl) (fun _ _ _ h => h) rfl (fun w' h => by have a0 := cell_step h bW2 ce2; go_simp) hH ?_
        simp only [wA, wB, wC, wD]
        refine wTl 10 (.slice (some ⟨b, o, none⟩) s.length cap) rfl (by kernel_rfl) (fun _ _ _ h => h) rfl (fun w' _ => by go_simp) hH ?_
        simp only [wA, wB, wC, wD]
        refine wTl 11 (.int .i64 a0) rfl (by kernel_rfl) (fun _ _ _ h => h) rfl (fun w' _ => by go_simp) hH ?_
        simp only [wA, wB, wC, wD]
        refine wTl 12 (.pointer (some ⟨b, o + a0 * 4, none⟩)) rfl (by kernel_rfl) (fun _ _ _ h => h) rfl (fun w' _ => by go_simp) hH ?_
        simp only [wA, wB, wC, wD]
        refine wTl 13 (.pointer (some ⟨b, o + a0 * 4, none⟩)) rfl (by kernel_rfl) (fun _ _ _ h => h) rfl (fun w' _ => by go_simp) hH ?_
        simp only [wA, wB, wC, wD]
        refine wTl 14 (.int .i64 dx) rfl (by kernel_rfl) (fun _ _ _ h => h) rfl (fun w' h => by have a0 := cell_step h bW2 cd; go_simp) hH ?_
        simp only [wA, wB, wC, wD]
        refine wTl 15 (.bool true) rfl (by kernel_rfl) (fun _ _ _ h => h) rfl (fun w' _ => by go_simp) hH ?_
        simp only [wA, wB, wC, wD]
        refine wTl 16 (.bool true) rfl (by kernel_rfl) (fun _ _ _ h => h) rfl (fun w' _ => by go_simp) hH ?_
        simp only [wA, wB, wC, wD]
        refine wTl 17 (.bool true) rfl (by kernel_rfl) (fun _ _ _ h => h) rfl (fun w' _ => by go_simp) hH ?_
        simp only [wA, wB, wC, wD]
        refine wpAnyH_done (by kernel_rfl) ?_ _
        have hbX := below_step hbc2 hH
        clear hH
        go_wp2_with fail
        go_roundg g
        case measure => omega
        case rel => exact ⟨j + 1, j, by omega, by go_num, rfl, at_less (d := ⟨dx, dt⟩) H0.out.2.2.2.1 HE.out HF.out HLX.out, hbX⟩
       ·have q9 : decide (ex < dx) = false := decide_eq_false hlx
        have HLX : Hid (¬ ex < dx) := hlx
        clear hlx
        go_upto_region 7 with fail
        refine wp_region_held_drew (S := fun w' => Below wc.heap.size wc w') (by kernel_rfl) (Below.refl _ _).drew (fun hH => ?_)
        revert hH
        generalize wc.drew = V
        intro hH
        refine wTl 0 (.bool true) rfl (by kernel_rfl) (fun _ _ _ h => h) rfl (fun w' _ => by go_simp) hH ?_
        simp only [wA, wB, wC, wD]
        refine wTl 1 (.bool true) rfl (by kernel_rfl) (fun _ _ _ h => h) rfl (fun w' _ => by go_simp) hH ?_
        simp only [wA, wB, wC, wD]
        refine wTl 2 (.int .i64 a0) rfl (by kernel_rfl) (fun _ _ _ h => h) rfl (fun w' _ => by go_simp) hH ?_
        simp only [wA, wB, wC, wD]
        refine wTl 3 (.bool false) rfl (by kernel_rfl) (fun _ _ _ h => h) rfl (fun w' _ => by go_simp) hH ?_
        simp only [wA, wB, wC, wD]
        refine wTl 4 (.bool false) rfl (by kernel_rfl) (fun _ _ _ h => h) rfl (fun w' _ => by go_simp) hH ?_
        simp only [wA, wB, wC, wD]
        refine wTl 5 (.slice (some ⟨b, o, none⟩) s.length cap) rfl (by kernel_rfl) (fun _ _ _ h => h) rfl (fun w' _ => by go_simp) hH ?_
        simp only [wA, wB, wC, wD]
        refine wTl 6 (.int .i64 j) rfl (by kernel_rfl) (fun _ _ _ h => h) rfl (fun w' _ => by go_simp) hH ?_
        simp only [wA, wB, wC, wD]
        refine wTl 7 (.pointer (some ⟨b, o + j * 4, none⟩)) rfl (by kernel_rfl) (fun _ _ _ h => h) rfl (fun w' _ => by go_simp) hH ?_
        simp only [wA, wB, wC, wD]
        refine wTl 8 (.pointer (some ⟨b, o + j * 4, none⟩)) rfl (by kernel_rfl) (fun _ _ _ h => h) rfl (fun w' _ => by go_simp) hH ?_
        simp only [wA, wB, wC, wD]
        refine wTl 9 (.int .i64 ex) rfl (by kernel_rfl) (fun _ _ _ h => h) rfl (fun w' h => by have a0 := cell_step h bW2 ce2; go_simp) hH ?_
        simp only [wA, wB, wC, wD]
        refine wTl 10 (.slice (some ⟨b, o, none⟩) s.length cap) rfl (by kernel_rfl) (fun _ _ _ h => h) rfl (fun w' _ => by go_simp) hH ?_
        simp only [wA, wB, wC, wD]
        refine wTl 11 (.int .i64 a0) rfl (by kernel_rfl) (fun _ _ _ h => h) rfl (fun w' _ => by go_simp) hH ?_
        simp only [wA, wB, wC, wD]
        refine wTl 12 (.pointer (some ⟨b, o + a0 * 4, none⟩)) rfl (by kernel_rfl) (fun _ _ _ h => h) rfl (fun w' _ => by go_simp) hH ?_
        simp only [wA, wB, wC, wD]
        refine wTl 13 (.pointer (some ⟨b, o + a0 * 4, none⟩)) rfl (by kernel_rfl) (fun _ _ _ h => h) rfl (fun w' _ => by go_simp) hH ?_
        simp only [wA, wB, wC, wD]
        refine wTl 14 (.int .i64 dx) rfl (by kernel_rfl) (fun _ _ _ h => h) rfl (fun w' h => by have a0 := cell_step h bW2 cd; go_simp) hH ?_
        simp only [wA, wB, wC, wD]
        refine wTl 15 (.bool false) rfl (by kernel_rfl) (fun _ _ _ h => h) rfl (fun w' _ => by go_simp) hH ?_
        simp only [wA, wB, wC, wD]
        refine wTl 16 (.bool false) rfl (by kernel_rfl) (fun _ _ _ h => h) rfl (fun w' _ => by go_simp) hH ?_
        simp only [wA, wB, wC, wD]
        refine wTl 17 (.bool false) rfl (by kernel_rfl) (fun _ _ _ h => h) rfl (fun w' _ => by go_simp) hH ?_
        simp only [wA, wB, wC, wD]
        refine wpAnyH_done (by kernel_rfl) ?_ _
        have hbX := below_step hbc2 hH
        clear hH
        go_wp2_with fail
        go_roundg g
        case measure => omega
        case rel => exact ⟨j + 1, a0, by omega, by go_num, rfl, at_more H0.out.1 H0.out.2.1 H0.out.2.2.1 H0.out.2.2.2.1 H0.out.2.2.2.2 HE.out (by have := HLX.out; simp only at *; omega), hbX⟩
   | zero =>
    obtain rfl : j = s.length := by omega
    have hz : ¬ ((s.length : Int) < (s.length : Int)) := by omega
    have HO2 : Hid (Own wr w.heap.size (.slice ua out.length uc) out) := HO.out.later hbr
    rcases HAt.out with ⟨rfl, hno⟩ | ⟨a0, ⟨dx, dk, dn, ds⟩, rfl, h0, h1, h2, h3, h4⟩
    ·have HNo : Hid (∀ x, look out x = look s x) := sinv_end HI.out fun i e he => hno i e (List.getElem?_eq_some_iff.1 he).1 he
     clear hno HAt
     go_wp2
     go_ret
     exact ⟨_, rfl, out, HO2.out, HI.out.1, HNo.out, by omega, hwr⟩
    ·obtain ⟨hI2, hc2⟩ := sinv_step HI.out h1 h2 (fun i e he => h3 i e (List.getElem?_eq_some_iff.1 he).1 he) h4
     have HI2 : Hid (SInv s (out ++ [⟨dx, dk, dn, ds⟩])) := hI2
     rcases HRow.out with h | ⟨b, o, rfl, hbs, hr⟩
     ·subst h; simp at h1
     obtain ⟨c0, c1, c2, c3⟩ := hr a0 _ h1
     have c0 := cell_step hwr hbs c0
     have c1 := cell_step hwr hbs c1
     have c2 := cell_step hwr hbs c2
     have c3 := cell_step hwr hbs c3
     simp only at c0 c1 c2 c3
     have k2 : (0 : Int) <= (a0 : Int) := by omega
     have k3 : (a0 : Int) < (s.length : Int) := by omega
     have k4 : ¬ (a0 : Int) < 0 := by omega
     have hsz : w.heap.size <= wr.heap.size := hwr.size
     clear hI2 h0 h1 h2 h3 h4 hr HAt
     go_wp2_with (at_builtin; refine wpList_append_lies _ rfl _ _ _ rfl w.heap.size 144 i0 _ 4 40 Tryz.underlying96 hi0 hz0 hz1 hz2 rfl (by omega) (.slice ua out.length uc) out.length (bcs out) (by rfl) (HO2.out.later (below1 _ _)) ⟨wr.heap.size, 0, none⟩ 1 1 (Bd.cs ⟨dx, dk, dn, ds⟩) (by rfl) (by rfl) (World.news_of_block (cs := (Bd.cs ⟨dx, dk, dn, ds⟩).toArray) (t := 144) (fr := (0, 0)) (heap_alloc_new wr _)) (by simp [Value.oneCell', Bd.cs]) (by omega) (by unfold maxLen; omega) (by omega) (by simp; omega) (wr.heap.size + 1) (by simp) ?_; intro gg cap1 w5 hown1 hgrow hat hlt1)
     have R : Own w5 w.heap.size (.slice (some ⟨gg, 0, none⟩) (out.length + 1) cap1) (out ++ [⟨dx, dk, dn, ds⟩]) := by
      unfold Own; rw [bcs_snoc, List.length_append]; exact hown1
     have hlto := (HO2.out.later (below1 wr (.cells (Bd.cs ⟨dx, dk, dn, ds⟩).toArray 144))).lt
     have RB : Below w.heap.size w w5 := (hwr.alloc hwr.size _).grown hgrow (by simp; omega) (fun q e => by have := hlto _ e; omega)
     have RO : Hid (Own w5 w.heap.size (.slice (some ⟨gg, 0, none⟩) (out.length + 1) cap1) (out ++ [⟨dx, dk, dn, ds⟩])) := R
     clear hown1 hgrow hat hlt1 R hlto
     go_wp2
     go_roundg (G - 1)
     case measure => omega
     case rel => exact ⟨_, RO.out, HI2.out, by omega, by simp; omega, RB⟩
end Go.Proofs.YtechceagghcipabGreatDoor
