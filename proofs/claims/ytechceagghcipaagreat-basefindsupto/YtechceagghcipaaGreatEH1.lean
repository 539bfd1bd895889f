import Derived.Test.YtechceagghcipaaGreatEG8
/-
  law 8: scripts, opened. (Written by EH4.py, out of RE7.)
-/
namespace Go.Proofs.YtechceagghcipaaGreat
open Go.ChangeShapes Go.WideShapes Go.ChangeAt Go.RowKit Go.Joins Go.Deep

theorem Tryz.cellsOp8 : Tryz.prog.cellsOf 66 = 8 := by kernel_rfl
theorem Tryz.cellsBool8 : Tryz.prog.cellsOf 4 = 1 := by kernel_rfl
/-- One step of a script. -/
structure Op8 where
  k : Int
  a : At × Value
  n : Int
  two : Bool
def Op8.cs (o : Op8) : List Value := [.int .i64 o.k, .int .i64 o.a.1.by_.k, .int .i64 o.a.1.by_.n, .string o.a.1.by_.s, .string o.a.1.name, o.a.2, .int .i64 o.n, .bool o.two]
structure Op8.Ok (W : World) (o : Op8) : Prop where
  ts : TsP W o.a.2 o.a.1.args
  k : ∀ t ∈ o.a.1.pl, KeyT t
  nm : o.a.1.name.size ≤ maxLen
def Op8.sz (o : Op8) : Nat := o.a.1.pl.length
set_option maxRecDepth 100000 in
theorem open_op8 {H : Type} {enc : TypeId × Value → H} {W : World} {base fuel : Nat} {spare : Nat → Bool} {held : Bool} {cs : List Value} {x : DataW H × List MemPlace}
    (h : DataW.trod enc Tryz.prog W base spare held fuel 66 cs = some x) (hw : ∀ n ∈ x.1.weights Tryz.prog 66, n ≤ reachBytes) : ∃ o : Op8, cs = o.cs ∧ o.Ok W ∧ o.sz ≤ Rows.uptoBulk x.1 := by
  obtain ⟨xs, n, e0, hd, hl, hlen, hf⟩ := DataW.trod_struct Tryz.underlying66 h
  rw [Tryz.cellsOp8] at hl
  match xs, hlen with
  | [y0, y1, y2, y3], _ =>
    match cs, hl with
    | [c0, c1, c2, c3, c4, c5, c6, c7], _ =>
      have h0 := hf 0 _ rfl
      have h1 := hf 1 _ rfl
      have h2 := hf 2 _ rfl
      have h3 := hf 3 _ rfl
      simp [Tryz.cellsInt7, Tryz.cellsBool8, Tryz.cellsAtom] at h0 h1 h2 h3
      obtain ⟨k, e0, -, -⟩ := DataW.trod_int Tryz.underlying3 h0
      obtain ⟨a, e1, ⟨-, k1⟩, k2, k3, k4⟩ := atom_of_cellsY h1 (by simp) (fun m hm => by
        refine hw m ?_
        rw [hd, DataW.weights, Tryz.underlying66]
        exact DataW.weights_mem_each (j := 1) rfl rfl m hm)
      obtain ⟨p, e2, -, -⟩ := DataW.trod_int Tryz.underlying3 h2
      obtain ⟨b, e3, -⟩ := DataW.trod_bool Tryz.underlying4 h3
      simp at e0 e1 e2 e3
      obtain ⟨rfl, rfl, rfl, rfl, rfl⟩ := e1
      subst e0 e2 e3
      refine ⟨⟨k, a, p, b⟩, rfl, ⟨k1, k3, k4⟩, ?_⟩
      rw [hd]
      simp only [Op8.sz, List.map, Rows.uptoBulk, Rows.uptoBulkAll]
      omega
/-- A script, where it lies. -/
def Sc8 (W : World) (v : Value) (Os : List Op8) : Prop := ∃ a cap, v = .slice a Os.length cap ∧ (Os = [] ∨ ∃ b o, a = some ⟨b, o, none⟩ ∧ b < W.heap.size ∧ ∀ (i : Nat) (p : Op8), Os[i]? = some p → ∀ (j : Nat) (c : Value), p.cs[j]? = some c → W.cell? ⟨b, o + (i * 8 + j), none⟩ = some c) ∧ ∀ p ∈ Os, p.Ok W
set_option maxRecDepth 100000 in
theorem open_ops8 {H : Type} {enc : TypeId × Value → H} {W : World} {base fuel : Nat} {spare : Nat → Bool} {held : Bool} {cs : List Value} {x : DataW H × List MemPlace}
    (h : DataW.trod enc Tryz.prog W base spare held fuel 22 cs = some x) (hw : ∀ n ∈ x.1.weights Tryz.prog 22, n ≤ reachBytes) : ∃ v Os, cs = [v] ∧ Sc8 W v Os ∧ Os.length ≤ Rows.uptoBulk x.1 ∧ (Os.map Op8.sz).sum ≤ Rows.uptoBulk x.1 := by
  rcases open_slice Tryz.underlying22 h with ⟨rfl, -⟩ | ⟨a, len, cap, m, n, D, Pl, rfl, hba, hlc, hcm, hm, hx, hel'⟩
  · exact ⟨_, [], rfl, ⟨none, 0, rfl, Or.inl rfl, fun p hp => by simp at hp⟩, by simp, by simp⟩
  · rw [Tryz.cellsOp8] at hel'
    have hlm : len ≤ m := by rw [hm]; split <;> omega
    have key : ∀ i : Nat, ∃ p : Op8, i < len → (∀ (j : Nat) (c : Value), p.cs[j]? = some c → W.cell? (a.add (i * 8 + j)) = some c) ∧ p.Ok W ∧ p.sz ≤ Rows.uptoBulk (D i) := fun i => by
      by_cases hi : i < len
      · obtain ⟨cs', h1, h2⟩ := hel' i (by omega)
        obtain ⟨-, hl, hc⟩ := World.cells?_some h1
        obtain ⟨p, rfl, hok, hbk⟩ := open_op8 h2 (fun m hm => hw m (by
          rw [hx, DataW.weights, Tryz.underlying22]
          exact List.mem_cons_of_mem _ (List.mem_append.2 (Or.inl (weights_mem_all hm (List.mem_map.2 ⟨i, List.mem_range.2 hi, rfl⟩))))))
        refine ⟨p, fun _ => ⟨fun j c hj => ?_, hok, hbk⟩⟩
        have hj8 : j < 8 := (List.getElem?_eq_some_iff.1 hj).1
        have h5 := hc j hj8
        rw [hj] at h5
        by_cases j1 : j = 0
        · by_cases i1 : i = 0
          · simpa [Addr.add, j1, i1] using h5
          · have i2 : ¬ i * 8 = 0 := by omega
            simpa [Addr.add, j1, i1, i2] using h5
        · by_cases i1 : i = 0
          · simpa [Addr.add, j1, i1] using h5
          · have i2 : ¬ i * 8 = 0 := by omega
            simpa [Addr.add, j1, i1, i2, Nat.add_assoc] using h5
      · exact ⟨⟨0, (⟨zt, ⟨#[]⟩, []⟩, .slice none 0 0), 0, false⟩, fun h => absurd h hi⟩
    obtain ⟨f, hf⟩ := Classical.axiomOfChoice key
    refine ⟨_, (List.range len).map f, rfl, ⟨some a, cap, by simp, ?_, fun c hc => ?_⟩, by rw [hx]; simpa using bulk7_slice ((List.range len).map D) _, ?_⟩
    · rcases Nat.eq_zero_or_pos len with h0 | h0
      · left; subst h0; rfl
      · right
        obtain ⟨b, off, spot⟩ := a
        have h00 := (hf 0 h0).1 0 _ rfl
        have hspot : spot = none := by simpa [Addr.add] using World.cell?_spot h00
        subst hspot
        refine ⟨b, off, rfl, World.block_lt_of_cell? W _ (by simpa [Addr.add] using h00), fun i c hc j u hu => ?_⟩
        have hi : i < len := by have := (List.getElem?_eq_some_iff.1 hc).1; simpa using this
        have e : c = f i := by
          rw [List.getElem?_map, List.getElem?_range hi] at hc; simpa using hc.symm
        subst e
        have := (hf i hi).1 j u hu
        rw [add_plain] at this
        exact this
    · obtain ⟨i, hi, rfl⟩ := List.mem_map.1 hc
      exact (hf i (List.mem_range.1 hi)).2.1
    · have h1 := bulk7_sum (fun i => (f i).sz) D (List.range len) fun i hi => (hf i (List.mem_range.1 hi)).2.2
      rw [List.map_map]
      rw [hx]
      simp only [Rows.uptoBulk]
      have e : Op8.sz ∘ f = fun i => (f i).sz := rfl
      rw [e]
      omega
end Go.Proofs.YtechceagghcipaaGreat
/-
  law 8: rises. (Written by EH1.py.)
-/
namespace Go.Proofs.YtechceagghcipaaGreat
open Go.RowKit
attribute [local go_sem ↓] Go.wp_at_zero Go.wp_at_succ

theorem As.get8 {w : World} {la : Option Addr} {l : List (At × Value)} {n cap k : Nat} {x : At × Value} (h : As w (.slice la n cap) l) (hx : l[k]? = some x) :
    ∃ lb lo xa xc, la = some ⟨lb, lo, none⟩ ∧ x.2 = .slice xa x.1.args.length xc ∧ ∀ Y : World, Below w.heap.size w Y → Y.cell? ⟨lb, lo + k * 5, none⟩ = some (.int .i64 x.1.by_.k) ∧ Y.cell? ⟨lb, lo + k * 5 + 1, none⟩ = some (.int .i64 x.1.by_.n) ∧ Y.cell? ⟨lb, lo + k * 5 + 2, none⟩ = some (.string x.1.by_.s) ∧ Y.cell? ⟨lb, lo + k * 5 + 3, none⟩ = some (.string x.1.name) ∧ Y.cell? ⟨lb, lo + k * 5 + 4, none⟩ = some x.2 := by
  obtain ⟨a, c, e, -, hr, ht⟩ := h
  cases e
  rcases hr with hr | ⟨lb, lo, rfl, hlr⟩
  · rw [hr] at hx; simp at hx
  obtain ⟨a0, a1, a2, a3, a4⟩ := (hlr.2 k x hx)
  obtain ⟨xa, xc, hsh, -⟩ := ht x (List.mem_of_getElem? hx)
  exact ⟨lb, lo, xa, xc, rfl, hsh, fun Y hY => ⟨cell_step hY hlr.1 a0, cell_step hY hlr.1 a1, cell_step hY hlr.1 a2, cell_step hY hlr.1 a3, cell_step hY hlr.1 a4⟩⟩
set_option maxRecDepth 20000 in
set_option maxHeartbeats 1000000 in
theorem rises8_yes (l : List (At × Value)) (v : Value) (Y : World) (h : As Y v l) (hs : ∀ (i : Nat) x y, l[i]? = some x → l[i + 1]? = some y → x.1.cmp y.1 < 0) (hl : l.length ≤ 1000000000) : Calls Tryz.prog 10 #[v] Y fun e Y' => e = .returned (.bool true) ∧ Below Y.heap.size Y Y' := by
  have HA := hm7 h
  have HS := hm7 hs
  obtain ⟨la, cap, rfl, -, -, hts⟩ := h
  have HTS := hm7 hts
  clear hs hts
  go_enter Tryz.func10, Tryz.ntmps10
  go_wp2
  go_loopg [3] l.length (fun g i wr => ∃ j : Nat, 0 < j ∧ j ≤ 1000000001 ∧ l.length + 1 ≤ j + g ∧ i = .int .i64 j ∧ Below Y.heap.size Y wr)
  case atStart => exact ⟨1, by omega, by omega, by omega, rfl, Below.refl _ _⟩
  case round =>
    obtain ⟨j, hj0, hj1, hj, rfl, hb⟩ := hrel
    have HB := hm7 hb
    by_cases hlt : (j : Int) < (l.length : Int)
    · obtain ⟨g, rfl⟩ : ∃ g, gk = g + 1 := ⟨gk - 1, by omega⟩
      obtain ⟨x, hx⟩ : ∃ x, l[j - 1]? = some x := ⟨_, List.getElem?_eq_getElem (by omega)⟩
      obtain ⟨y, hy⟩ : ∃ y, l[j]? = some y := ⟨_, List.getElem?_eq_getElem (by omega)⟩
      have hc := HS.out (j - 1) x y hx (by rw [show j - 1 + 1 = j by omega]; exact hy)
      have t1 := HTS.out x (List.mem_of_getElem? hx)
      have t2 := HTS.out y (List.mem_of_getElem? hy)
      have HC0 := fun (X : World) (hX : Below wr.heap.size wr X) => cmpA_any x.1 y.1 x.2 y.2 X ((t1.later hb).later hX) ((t2.later hb).later hX)
      obtain ⟨lb, lo, ax, cx, rfl, hax, c1⟩ := As.get8 HA.out hx
      obtain ⟨lb', lo', ay, cy, e, hay, c2⟩ := As.get8 HA.out hy
      cases e
      obtain ⟨⟨⟨kx, mx, sx⟩, nx, lx⟩, vx⟩ := x
      obtain ⟨⟨⟨ky, my, sy⟩, ny, ly⟩, vy⟩ := y
      simp only at hax hay c1 c2 HC0 hc
      subst hax hay
      obtain ⟨R, hR⟩ : ∃ R, At.cmp ⟨⟨kx, mx, sx⟩, nx, lx⟩ ⟨⟨ky, my, sy⟩, ny, ly⟩ = R := ⟨_, rfl⟩
      rw [hR] at hc HC0
      have HX1 := hm7 (fun (X : World) (hX : Below wr.heap.size wr X) => c1 X (hb.trans (hX.mono hb.size)))
      have HX2 := hm7 (fun (X : World) (hX : Below wr.heap.size wr X) => c2 X (hb.trans (hX.mono hb.size)))
      have HCM : Hid (∀ (X : World), Below wr.heap.size wr X → Calls Tryz.prog 25 #[.agg #[.int .i64 kx, .int .i64 mx, .string sx, .string nx, .slice ax lx.length cx], .agg #[.int .i64 ky, .int .i64 my, .string sy, .string ny, .slice ay ly.length cy]] X fun e w' => e = .returned (.int .i64 R) ∧ Below X.heap.size X w') := HC0
      have j1 : (0 : Int) ≤ (j : Int) - 1 := by omega
      have j2 : (j : Int) - 1 < (l.length : Int) := by omega
      have j3 : ((j : Int) - 1).toNat = j - 1 := by omega
      have j4 : (0 : Int) ≤ (j : Int) := by omega
      have j5 : IntKind.i64.wrap ((j : Int) - 1) = (j : Int) - 1 := by rw [IntKind.wrap_i64]; omega
      have j6 : ¬ (j : Int) < 1 := by omega
      have hR0 : ¬ (0 : Int) ≤ R := by omega
      have HJ := hm7 (And.intro hj0 (And.intro hj1 hj))
      clear hx hy t1 t2 c1 c2 HC0 hR hc hb hj hj0 hj1
      go_upto_region 4 with fail
      refine wp_region_held_drew (S := fun w' => Below wr.heap.size wr w') (by kernel_rfl) (by exact (Below.refl _ _).drew) (fun hH => ?_)
      revert hH
      generalize wr.drew = V
      intro hH
      refine wpAnyH_take (i := 0) (oi := ⟨_, _, _, _, _, _⟩) (v := .slice (some ⟨lb, lo, none⟩) l.length cap) rfl (by kernel_rfl) (by kernel_rfl) (by kernel_rfl) (fun _ _ _ h => h) (Or.inl ⟨by rfl, fun w' h => by clear h; go_simp⟩) hH ?_
      simp only [Act.put, List.setIfInBounds_toArray, List.set_cons_zero, List.set_cons_succ]
      refine wpAnyH_take (i := 1) (oi := ⟨_, _, _, _, _, _⟩) (v := .int .i64 (j : Int)) rfl (by kernel_rfl) (by kernel_rfl) (by kernel_rfl) (fun _ _ _ h => h) (Or.inl ⟨by rfl, fun w' h => by clear h; go_simp⟩) hH ?_
      simp only [Act.put, List.setIfInBounds_toArray, List.set_cons_zero, List.set_cons_succ]
      refine wpAnyH_take (i := 2) (oi := ⟨_, _, _, _, _, _⟩) (v := .int .i64 ((j : Int) - 1)) rfl (by kernel_rfl) (by kernel_rfl) (by kernel_rfl) (fun _ _ _ h => h) (Or.inl ⟨by rfl, fun w' h => by clear h; go_simp⟩) hH ?_
      simp only [Act.put, List.setIfInBounds_toArray, List.set_cons_zero, List.set_cons_succ]
      refine wpAnyH_take (i := 3) (oi := ⟨_, _, _, _, _, _⟩) (v := .pointer (some ⟨lb, lo + (j - 1) * 5, none⟩)) rfl (by kernel_rfl) (by kernel_rfl) (by kernel_rfl) (fun _ _ _ h => h) (Or.inl ⟨by rfl, fun w' h => by clear h; go_simp⟩) hH ?_
      simp only [Act.put, List.setIfInBounds_toArray, List.set_cons_zero, List.set_cons_succ]
      refine wpAnyH_take (i := 4) (oi := ⟨_, _, _, _, _, _⟩) (v := .agg #[.int .i64 kx, .int .i64 mx, .string sx, .string nx, .slice ax lx.length cx]) rfl (by kernel_rfl) (by kernel_rfl) (by kernel_rfl) (fun _ _ _ h => h) (Or.inl ⟨by rfl, fun w' h => by obtain ⟨p0, p1, p2, p3, p4⟩ := HX1.out w' h; clear h; go_simp⟩) hH ?_
      simp only [Act.put, List.setIfInBounds_toArray, List.set_cons_zero, List.set_cons_succ]
      refine wpAnyH_take (i := 5) (oi := ⟨_, _, _, _, _, _⟩) (v := .slice (some ⟨lb, lo, none⟩) l.length cap) rfl (by kernel_rfl) (by kernel_rfl) (by kernel_rfl) (fun _ _ _ h => h) (Or.inl ⟨by rfl, fun w' h => by clear h; go_simp⟩) hH ?_
      simp only [Act.put, List.setIfInBounds_toArray, List.set_cons_zero, List.set_cons_succ]
      refine wpAnyH_take (i := 6) (oi := ⟨_, _, _, _, _, _⟩) (v := .int .i64 (j : Int)) rfl (by kernel_rfl) (by kernel_rfl) (by kernel_rfl) (fun _ _ _ h => h) (Or.inl ⟨by rfl, fun w' h => by clear h; go_simp⟩) hH ?_
      simp only [Act.put, List.setIfInBounds_toArray, List.set_cons_zero, List.set_cons_succ]
      refine wpAnyH_take (i := 7) (oi := ⟨_, _, _, _, _, _⟩) (v := .pointer (some ⟨lb, lo + j * 5, none⟩)) rfl (by kernel_rfl) (by kernel_rfl) (by kernel_rfl) (fun _ _ _ h => h) (Or.inl ⟨by rfl, fun w' h => by clear h; go_simp⟩) hH ?_
      simp only [Act.put, List.setIfInBounds_toArray, List.set_cons_zero, List.set_cons_succ]
      refine wpAnyH_take (i := 8) (oi := ⟨_, _, _, _, _, _⟩) (v := .agg #[.int .i64 ky, .int .i64 my, .string sy, .string ny, .slice ay ly.length cy]) rfl (by kernel_rfl) (by kernel_rfl) (by kernel_rfl) (fun _ _ _ h => h) (Or.inl ⟨by rfl, fun w' h => by obtain ⟨p0, p1, p2, p3, p4⟩ := HX2.out w' h; clear h; go_simp⟩) hH ?_
      simp only [Act.put, List.setIfInBounds_toArray, List.set_cons_zero, List.set_cons_succ]
      refine wpAnyH_ready (rs := [9]) (by kernel_rfl) (by simp) ?_
      refine (AllReadyH.cons (o := ⟨_, _, _, _, _, _⟩) rfl (fun K hK => ?_) AllReadyH.nil)
      go_simp
      refine (HCM.out _ hH).mono ?_
      rintro e V1 ⟨rfl, hb⟩
      refine hK.out _ _ (hH.trans (hb.mono hH.size)) (fun hH => ?_)
      clear hK hb
      try simp only [Act.put, List.setIfInBounds_toArray, List.set_cons_zero, List.set_cons_succ]
      refine wpAnyH_take (i := 10) (oi := ⟨_, _, _, _, _, _⟩) (v := .bool false) rfl (by kernel_rfl) (by kernel_rfl) (by kernel_rfl) (fun _ _ _ h => h) (Or.inl ⟨by rfl, fun w' h => by clear h; go_simp⟩) hH ?_
      simp only [Act.put, List.setIfInBounds_toArray, List.set_cons_zero, List.set_cons_succ]
      refine wpAnyH_done (by kernel_rfl) ?_ _
      have HV := hm7 hH
      clear hH
      go_wp2
      go_roundg g
      case measure => omega
      case rel => exact ⟨j + 1, by omega, by have := HJ.out; omega, by have := HJ.out; omega, by go_num, HB.out.trans (HV.out.mono HB.out.size)⟩
    · clear hb hj hj0 hj1
      go_wp2
      go_ret
      exact ⟨rfl, HB.out⟩
end Go.Proofs.YtechceagghcipaaGreat
