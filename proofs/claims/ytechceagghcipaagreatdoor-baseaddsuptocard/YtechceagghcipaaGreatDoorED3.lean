import Derived.Test.YtechceagghcipaaGreatDoorED2
namespace Go.Proofs.YtechceagghcipaaGreatDoor
open Go.RowKit
attribute [local go_sem ↓] Go.wp_at_zero Go.wp_at_succ

structure HV8 (g : Nat) (nm : ByteArray) (n : Nat) (parts : Int) (cv kv : Value) (b : Nat) (Y' : World) : Prop where
 b0 : Bk Y' b #[.pointer (some ⟨g, 0, none⟩)] 29
 b1 : Bk Y' (b + 1) #[.string nm, .int .i64 (n : Int)] 60
 b2 : Bk Y' (b + 2) #[.int .i64 parts] 3
 b3 : Bk Y' (b + 3) #[cv] 71
 b4 : Bk Y' (b + 4) #[kv] 71
theorem HV8.below {g : Nat} {nm : ByteArray} {n : Nat} {parts : Int} {cv kv : Value} {b : Nat} {Y Y' : World} (h : HV8 g nm n parts cv kv b Y) (hb : Below Y.heap.size Y Y') : HV8 g nm n parts cv kv b Y' := ⟨h.b0.below hb, h.b1.below hb, h.b2.below hb, h.b3.below hb, h.b4.below hb⟩
def hav8 (b : Nat) : Value := .func (.func 60) #[] #[.pointer (some ⟨b, 0, none⟩), .pointer (some ⟨b + 1, 0, none⟩), .pointer (some ⟨b + 2, 0, none⟩), .pointer (some ⟨b + 3, 0, none⟩), .pointer (some ⟨b + 4, 0, none⟩)]
set_option maxRecDepth 20000 in
set_option maxHeartbeats 1000000 in
theorem having8_any (g : Nat) (nm : ByteArray) (n : Nat) (parts : Int) (ca ka : Option Addr) (cn cc kn kc : Nat) (Y : World) :
  Calls Tryz.prog 38 #[.pointer (some ⟨g, 0, none⟩), .agg #[.string nm, .int .i64 (n : Int)], .int .i64 parts, .slice ca cn cc, .slice ka kn kc] Y fun e Y' => e = .returned (hav8 Y.heap.size) /\ HV8 g nm n parts (.slice ca cn cc) (.slice ka kn kc) Y.heap.size Y' /\ Below Y.heap.size Y Y' := by
 go_enter Tryz.func38, Tryz.ntmps38
 go_wp2
 go_ret
 obtain ⟨h0, h1, h2, hb⟩ := three9 Y #[.pointer (some ⟨g, 0, none⟩)] #[.string nm, .int .i64 (n : Int)] #[.int .i64 parts] 29 60 3
 generalize hW : (((Y.alloc (.cells #[.pointer (some ⟨g, 0, none⟩)] 29)).alloc (.cells #[.string nm, .int .i64 (n : Int)] 60)).alloc (.cells #[.int .i64 parts] 3)) = W at *
 have hz : W.heap.size = Y.heap.size + 3 := by rw [<- hW]; simp
 obtain ⟨h4, h3, hb2⟩ := two8 W #[.slice ca cn cc] #[.slice ka kn kc] 71 71
 rw [hz] at h3 h4
 exact ⟨rfl, ⟨h0.below hb2, h1.below hb2, h2.below hb2, h3, h4⟩, below_step hb hb2⟩
end Go.Proofs.YtechceagghcipaaGreatDoor
