/-
  wire: remove.
-/
import Derived.Test.YtboomeeipnfbmaaWQ4
import Derived.Deep.RegionLaw
namespace Go.Proofs.Ytboomeeipnfbmaa
open Go.RowKit
attribute [local go_sem ↓] Go.wp_at_zero Go.wp_at_succ

/-- copy of things of two cells, as a step of a drawn region. -/
theorem step_copyW {ops : Array Oper} {o : Oper} {a : Act} {w : World} {K : Act → World → Prop} {Q : Exit → Act → World → Prop} {E : Prop} (hgd : o.guard = none) (d s : Operand)
    (ho : o.op = .call { callee := .builtin .copy, args := #[d, s], argTypes := #[43, 43] })
    (dp sp : Option Addr) (dLen dCap sLen sCap : Nat) (hd : a.eval d = .slice dp dLen dCap) (hs : a.eval s = .slice sp sLen sCap)
    (g off : Nat) (cur : List Value) (hg : Bk w g cur.toArray 57) (cs : List Value) (k : Nat) (hk : k = Nat.min sLen dLen) (hn : cs.length = k * 2)
    (hpos : 0 < k → dp = some ⟨g, off, none⟩ ∧ ∃ ad, sp = some ad ∧ ∀ j v, cs[j]? = some v → w.cell? (ad.add j) = some v)
    (hfit : off + cs.length ≤ cur.length) (h1 : ∀ v ∈ cs, v.oneCell' = true)
    (h : ∀ w', Bk w' g (splice cur off cs).toArray 57 → Fr (fun x => x = g) w w' → K (a.put o.dst (goInt k)) w') :
    if Region.wanted o (yielded ops a.tmps) = true then Oper.wp Try.prog o a w K Q else E := by
  have hw : Region.wanted o (yielded ops a.tmps) = true := by simp [Region.wanted, hgd]
  rw [if_pos hw]
  obtain ⟨i, hi, -, h2, -⟩ := infoW Try.infoMsgW
  by_cases h0 : k = 0
  · subst h0
    obtain rfl : cs = [] := List.eq_nil_of_length_eq_zero (by omega)
    have hrun : (Builtin.copy_ #[43, 43] o.type #[.slice dp dLen dCap, .slice sp sLen sCap]).run Try.prog w = .ok (goInt 0) w := by
      cases sp <;> cases dp <;> simp [Builtin.copy_, run_underlying Try.underlying43, Builtin.lenOf, Builtin.firstCells, sizeOf, typeInfo, hi, ← hk, storeCells, loadCells, loadCellsFrom]
    unfold Oper.wp
    simp [execOp, ho, resolve, invoke, builtin, hd, hs, hrun, Result.andThen]
    exact h w (by simpa [splice] using hg) (Fr.refl _ _)
  · obtain ⟨rfl, ad, rfl, hsrc⟩ := hpos (by omega)
    have hl := run_loadCells_list (P := Try.prog) w ad cs hsrc
    have hst := run_storeCells_at Try.prog g off 57 cs 0 cur.toArray w hg (by simpa using hfit) h1
    have hrun : (Builtin.copy_ #[43, 43] o.type #[.slice (some ⟨g, off, none⟩) dLen dCap, .slice (some ad) sLen sCap]).run Try.prog w = .ok (goInt k) (w.setRow g (cur.toArray.toList.take off ++ cs ++ cur.toArray.toList.drop (off + cs.length)).toArray) := by
      simp [Builtin.copy_, run_underlying Try.underlying43, Builtin.lenOf, Builtin.firstCells, sizeOf, typeInfo, hi, h2, ← hk, ← hn, hl, hst]
    unfold Oper.wp
    simp [execOp, ho, resolve, invoke, builtin, hd, hs, hrun, Result.andThen]
    refine h _ (by unfold Bk; simpa [splice] using setRow_heap w g _ _ 57 _ hg) ⟨rfl, rfl, rfl, by simp [World.setRow], fun b _ hb => setRow_other w g b _ (fun e => hb (by omega))⟩
theorem zerMW (X : World) : (zeroValue 57).run Try.prog X = .ok (.agg #[.int .i64 0, .slice none 0 0]) X := by kernel_rfl
def zrW : List Value := [.int .i64 0, .slice none 0 0]
theorem clearW (g i c : Nat) (w : World) (cur : List Value) (hg : Bk w g cur.toArray 57) (hfit : i + 2 ≤ cur.length) (ty : TypeId) :
    (Builtin.clear_ #[43] ty #[.slice (some ⟨g, i, none⟩) 1 c]).run Try.prog w = .ok (.tuple #[]) (w.setRow g (cur.take i ++ zrW ++ cur.drop (i + 2)).toArray) := by
  have hst := run_storeCells_at (P := Try.prog) g i 57 zrW 0 cur.toArray w hg (by simp [zrW]; omega) (by intro v hv; simp [zrW] at hv; rcases hv with rfl | rfl <;> rfl)
  simp only [Nat.add_zero] at hst
  have hz : (Builtin.zeroCells (Value.agg #[Value.int .i64 0, .slice none 0 0]).cells 1).toList = zrW := by kernel_rfl
  have hzm := zerMW
  simp [Builtin.clear_, run_underlying Try.underlying43, hzm, hz, hst]
  rfl
set_option maxRecDepth 20000 in
set_option maxHeartbeats 2000000 in
theorem yrem_any (g g' M cap at_ : Nat) (lv : Value) (L R : List Value) (Y : World) (h0 : Bk Y g #[.slice (some ⟨g', 0, none⟩) M cap, lv] 64) (h1 : Bk Y g' (L ++ R).toArray 57) (hL : L.length = M * 2) (hR : L.length + R.length = cap * 2) (hat : at_ < M) (hM : M ≤ 4096) (hne : g ≠ g') (hone : ∀ v ∈ L, v.oneCell' = true) :
    Calls Try.prog 28 #[.pointer (some ⟨g, 0, none⟩), .int .i64 at_] Y fun e Y' => e = .returned (.tuple #[]) ∧ Bk Y' g #[.slice (some ⟨g', 0, none⟩) (M - 1) cap, lv] 64 ∧ Bk Y' g' (L.take (at_ * 2) ++ L.drop ((at_ + 1) * 2) ++ (zrW ++ R)).toArray 57 ∧ Fr (fun x => x = g ∨ x = g') Y Y' := by
  have hcap : M ≤ cap := by omega
  have c0 : Y.cell? ⟨g, 0, none⟩ = some (.slice (some ⟨g', 0, none⟩) M cap) := h0.cell (i := 0) rfl
  have c0d : Y.drew.cell? ⟨g, 0, none⟩ = some (.slice (some ⟨g', 0, none⟩) M cap) := c0
  have H0 := hm7 h0
  have H1 := hm7 h1
  have HONE := hm7 hone
  have HL := hm7 hL
  have i0 : (0 : Int) ≤ (at_ : Int) := by omega
  have i1 : (at_ : Int) ≤ (M : Int) := by omega
  have i2 : (0 : Int) ≤ (at_ : Int) + 1 := by omega
  have i3 : (at_ : Int) + 1 ≤ (M : Int) := by omega
  have n1 : ¬ cap = at_ := by omega
  have t1 : ((at_ : Int) + 1).toNat = at_ + 1 := by omega
  have w1 : IntKind.i64.wrap ((at_ : Int) + 1) = (at_ : Int) + 1 := by rw [IntKind.wrap_i64]; omega
  obtain ⟨C, hC⟩ : ∃ C, L ++ R = C := ⟨_, rfl⟩
  rw [hC] at H1
  have HC := hm7 hC
  obtain ⟨S, hS⟩ : ∃ S, L.drop ((at_ + 1) * 2) = S := ⟨_, rfl⟩
  have HS := hm7 hS
  have hCL : C.length = cap * 2 := by rw [← hC, List.length_append]; exact hR
  have hSl : S.length = (M - (at_ + 1)) * 2 := by rw [← hS, List.length_drop, hL]; omega
  have HCL := hm7 hCL
  have HSL := hm7 hSl
  have hmin : M - (at_ + 1) = Nat.min (M - (at_ + 1)) (M - at_) := (Nat.min_eq_left (by omega)).symm
  have HMIN := hm7 hmin
  have HPOS : Hid (0 < M - (at_ + 1) → (some ⟨g', at_ * 2, none⟩ : Option Addr) = some ⟨g', at_ * 2, none⟩ ∧ ∃ ad, (if cap = at_ + 1 then some ⟨g', 0, none⟩ else some ⟨g', (at_ + 1) * 2, none⟩ : Option Addr) = some ad ∧ ∀ (j : Nat) v, S[j]? = some v → Y.drew.cell? (ad.add j) = some v) := fun hp => by
    refine ⟨rfl, _, if_neg (by omega), fun j v hj => ?_⟩
    rw [Go.WideShapes.add_plain]
    have hb : Bk Y.drew g' C.toArray 57 := H1.out
    refine hb.cell ?_
    rw [List.getElem?_toArray, ← HC.out, ← hj, ← HS.out, List.getElem?_drop, List.getElem?_append_left ?_]
    rw [← HS.out, List.getElem?_drop] at hj
    exact (List.getElem?_eq_some_iff.1 hj).1
  have HFIT : Hid (at_ * 2 + S.length ≤ C.length) := by show _ ≤ _; omega
  have HSO : Hid (∀ v ∈ S, v.oneCell' = true) := fun v hv => hone v (by rw [← hS] at hv; exact List.mem_of_mem_drop hv)
  obtain ⟨K, hK⟩ : ∃ K, M - 1 = K := ⟨_, rfl⟩
  have hMK : M - K = 1 := by omega
  have w2 : IntKind.i64.wrap ((M : Int) - 1) = (K : Int) := by rw [IntKind.wrap_i64]; omega
  have k0 : (0 : Int) ≤ (K : Int) := by omega
  have k1 : (K : Int) ≤ (M : Int) := by omega
  have k2 : (K : Int) ≤ (cap : Int) := by omega
  have n3 : ¬ cap = K := by omega
  have HKM : Hid (M = K + 1) := by show _ = _; omega
  have hW : at_ * 2 + S.length = K * 2 := by omega
  have HW := hm7 hW
  rw [hK]
  clear h0 h1 hL hC hS hone hK hCL hSl hmin hW
  go_enter Try.func28, Try.ntmps28
  go_upto_region 0 with fail
  go_region_law (refine step_copyW rfl (.tmp 10) (.tmp 17) rfl (some ⟨g', at_ * 2, none⟩) (if cap = at_ + 1 then some ⟨g', 0, none⟩ else some ⟨g', (at_ + 1) * 2, none⟩) (M - at_) (cap - at_) (M - (at_ + 1)) (cap - (at_ + 1)) (by simp [Act.eval, Act.put]) (by simp [Act.eval, Act.put]) g' (at_ * 2) C H1.out S (M - (at_ + 1)) HMIN.out HSL.out HPOS.out HFIT.out HSO.out ?_; intro w5 hb5 hf5)
  all_goals
    have HB5 := hm7 hb5
    have HF5 := hm7 hf5
    have hg5 : Bk w5 g #[.slice (some ⟨g', 0, none⟩) M cap, lv] 64 := (show Bk Y.drew g _ _ from H0.out).fr hf5 hne
    have HG5 := hm7 hg5
    have c5 : w5.cell? ⟨g, 0, none⟩ = some (.slice (some ⟨g', 0, none⟩) M cap) := hg5.cell (i := 0) rfl
    have hcl := fun ty => clearW g' (K * 2) (cap - K) w5 _ hb5 (by rw [length_splice _ _ _ HFIT.out, HCL.out]; omega) ty
    obtain ⟨X, hX⟩ : ∃ X, ((splice C (at_ * 2) S).take (K * 2) ++ zrW ++ (splice C (at_ * 2) S).drop (K * 2 + 2)).toArray = X := ⟨_, rfl⟩
    simp only [hX] at hcl
    have c6 : (w5.setRow g' X).cell? ⟨g, 0, none⟩ = some (.slice (some ⟨g', 0, none⟩) M cap) := by
      rw [World.cell?_of_block (w := w5) (a := ⟨g, 0, none⟩) (setRow_other w5 g' g X hne)]; exact c5
    have f6 : (w5.setRow g' X).frozen? ⟨g, 0, none⟩ = false := Bk.froz (c := #[.slice (some ⟨g', 0, none⟩) M cap, lv]) (t := 64) ((setRow_other w5 g' g X hne).trans HG5.out) 0
    have HX := hm7 hX
    clear hb5 hf5 hg5 hX
    go_wp2
    all_goals
      go_end0
      have hb6 : Bk (w5.setRow g' X) g' X 57 := setRow_heap w5 g' _ _ 57 (0, 0) HB5.out
      have hg6 : Bk (w5.setRow g' X) g #[.slice (some ⟨g', 0, none⟩) M cap, lv] 64 := (setRow_other w5 g' g X hne).trans HG5.out
      refine ⟨rfl, hg6.set 0 _, ?_, ?_⟩
      · have e : X = (L.take (at_ * 2) ++ L.drop ((at_ + 1) * 2) ++ (zrW ++ R)).toArray := by
          rw [← HX.out]
          congr 1
          have e1 : splice C (at_ * 2) S = L.take (at_ * 2) ++ S ++ C.drop (K * 2) := by
            unfold splice
            rw [HW.out, ← HC.out, List.take_append_of_le_length (by rw [HL.out]; omega), List.append_assoc]
          have e2 : (L.take (at_ * 2) ++ S).length = K * 2 := by
            rw [List.length_append, List.length_take, HL.out, HSL.out]; have := HKM.out; omega
          rw [e1, HS.out]
          rw [List.take_append_of_le_length (by omega), List.take_of_length_le (by omega), List.drop_append, List.drop_of_length_le (by omega), List.nil_append, e2, List.drop_drop, show K * 2 + (K * 2 + 2 - K * 2) = K * 2 + 2 by omega, ← HC.out, List.drop_append, List.drop_of_length_le (by rw [HL.out]; have := HKM.out; omega), List.nil_append, show K * 2 + 2 - L.length = 0 by rw [HL.out]; have := HKM.out; omega, List.drop_zero, List.append_assoc]
        subst e
        simpa only [List.append_assoc] using hb6.off (i := 0) (fun e => hne e.symm)
      · have hf6 : Fr (fun x => x = g ∨ x = g') Y w5 := Fr.mono (P := fun x => x = g') ⟨HF5.out.os, HF5.out.tape, HF5.out.output, HF5.out.size, HF5.out.block⟩ fun x _ hx => Or.inr hx
        have hf7 : Fr (fun x => x = g ∨ x = g') Y (w5.setRow g' X) := hf6.tr ⟨rfl, rfl, rfl, by simp [World.setRow], fun b _ hb => setRow_other w5 g' b X (fun e => hb (Or.inr e))⟩
        exact hf7.set (Or.inl (Or.inl rfl))
end Go.Proofs.Ytboomeeipnfbmaa
