/- Nodes of two operands may stand in a constraint of whole numbers: nodeError. -/
import Derived.Test.YtgdedcdjfljcnaaGreatDoorM14
namespace Go.Proofs.YtgdedcdjfljcnaaGreatDoor
open Go.RowKit

set_option maxRecDepth 100000 in
set_option maxHeartbeats 2000000 in
theorem nodeError_op4 (X1 X2 X3 X4 X5 X6 : Value) (b off n ca i : Nat) (A : Option Addr) (na cn : Nat) (w : World) (hi0 : i < n) (hb : b < w.heap.size)
    (c0 : w.cell? ⟨b, off + i * 5, none⟩ = some (.int .i64 4)) (c1 : w.cell? ⟨b, off + i * 5 + 1, none⟩ = some (.int .i64 0)) (c2 : w.cell? ⟨b, off + i * 5 + 2, none⟩ = some (.int .i64 0)) (c3 : w.cell? ⟨b, off + i * 5 + 3, none⟩ = some (.string ⟨#[]⟩)) (c4 : w.cell? ⟨b, off + i * 5 + 4, none⟩ = some (.slice A na cn)) (_hn : n ≤ 1000) :
    Calls Tryz.prog 74 #[.agg #[.int .i64 2, X1, X2, X3, X4, X5, X6, .slice (some ⟨b, off, none⟩) n ca], .int .i64 i, .int .i64 1] w fun e w' => e = .returned (.int .i64 0) ∧ Fr w.heap.size w w' := by
  have hf := ((Fr.self w).alloc (.cells #[.int .i64 2, X1, X2, X3, X4, X5, X6, .slice (some ⟨b, off, none⟩) n ca] 28)).alloc (.cells #[.int .i64 4, .int .i64 0, .int .i64 0, .string ⟨#[]⟩, .slice A na cn] 66)
  have hst : standB 4 1 = true := rfl
  have Hms := Lib.hid (fun w => hst ▸ mayStand_any 4 1 w)
  have hi1 : (0 : Int) ≤ i := by omega
  have hi2 : (i : Int) < n := by omega
  clear hst
  go_enter Tryz.func74, Tryz.ntmps74
  go_wp2_with fail
  refine (Hms.out _).mono ?_
  rintro e w' ⟨rfl, rfl⟩
  go_wp2_with fail
  have hq : ∀ k, ((w.alloc (.cells #[.int .i64 2, X1, X2, X3, X4, X5, X6, .slice (some ⟨b, off, none⟩) n ca] 28)).alloc (.cells #[.int .i64 4, .int .i64 0, .int .i64 0, .string ⟨#[]⟩, .slice A na cn] 66)).cell? ⟨w.heap.size + 1, k, none⟩ = #[.int .i64 4, .int .i64 0, .int .i64 0, .string ⟨#[]⟩, .slice A na cn][k]? := fun k => by
    have := cell_new (w.alloc (.cells #[.int .i64 2, X1, X2, X3, X4, X5, X6, .slice (some ⟨b, off, none⟩) n ca] 28)) #[.int .i64 4, .int .i64 0, .int .i64 0, .string ⟨#[]⟩, .slice A na cn] 66 k
    rwa [World.size_alloc] at this
  generalize (w.alloc (.cells #[.int .i64 2, X1, X2, X3, X4, X5, X6, .slice (some ⟨b, off, none⟩) n ca] 28)).alloc (.cells #[.int .i64 4, .int .i64 0, .int .i64 0, .string ⟨#[]⟩, .slice A na cn] 66) = W at *
  have q1 := hq 0; have q4 := hq 3
  clear hq c0 c1 c2 c3 c4
  go_quiet (fail)
  go_wp2_with fail
  go_ret
  exact ⟨rfl, hf.drewN _⟩
set_option maxRecDepth 100000 in
set_option maxHeartbeats 2000000 in
theorem nodeError_op5 (X1 X2 X3 X4 X5 X6 : Value) (b off n ca i : Nat) (A : Option Addr) (na cn : Nat) (w : World) (hi0 : i < n) (hb : b < w.heap.size)
    (c0 : w.cell? ⟨b, off + i * 5, none⟩ = some (.int .i64 5)) (c1 : w.cell? ⟨b, off + i * 5 + 1, none⟩ = some (.int .i64 0)) (c2 : w.cell? ⟨b, off + i * 5 + 2, none⟩ = some (.int .i64 0)) (c3 : w.cell? ⟨b, off + i * 5 + 3, none⟩ = some (.string ⟨#[]⟩)) (c4 : w.cell? ⟨b, off + i * 5 + 4, none⟩ = some (.slice A na cn)) (_hn : n ≤ 1000) :
    Calls Tryz.prog 74 #[.agg #[.int .i64 2, X1, X2, X3, X4, X5, X6, .slice (some ⟨b, off, none⟩) n ca], .int .i64 i, .int .i64 1] w fun e w' => e = .returned (.int .i64 0) ∧ Fr w.heap.size w w' := by
  have hf := ((Fr.self w).alloc (.cells #[.int .i64 2, X1, X2, X3, X4, X5, X6, .slice (some ⟨b, off, none⟩) n ca] 28)).alloc (.cells #[.int .i64 5, .int .i64 0, .int .i64 0, .string ⟨#[]⟩, .slice A na cn] 66)
  have hst : standB 5 1 = true := rfl
  have Hms := Lib.hid (fun w => hst ▸ mayStand_any 5 1 w)
  have hi1 : (0 : Int) ≤ i := by omega
  have hi2 : (i : Int) < n := by omega
  clear hst
  go_enter Tryz.func74, Tryz.ntmps74
  go_wp2_with fail
  refine (Hms.out _).mono ?_
  rintro e w' ⟨rfl, rfl⟩
  go_wp2_with fail
  have hq : ∀ k, ((w.alloc (.cells #[.int .i64 2, X1, X2, X3, X4, X5, X6, .slice (some ⟨b, off, none⟩) n ca] 28)).alloc (.cells #[.int .i64 5, .int .i64 0, .int .i64 0, .string ⟨#[]⟩, .slice A na cn] 66)).cell? ⟨w.heap.size + 1, k, none⟩ = #[.int .i64 5, .int .i64 0, .int .i64 0, .string ⟨#[]⟩, .slice A na cn][k]? := fun k => by
    have := cell_new (w.alloc (.cells #[.int .i64 2, X1, X2, X3, X4, X5, X6, .slice (some ⟨b, off, none⟩) n ca] 28)) #[.int .i64 5, .int .i64 0, .int .i64 0, .string ⟨#[]⟩, .slice A na cn] 66 k
    rwa [World.size_alloc] at this
  generalize (w.alloc (.cells #[.int .i64 2, X1, X2, X3, X4, X5, X6, .slice (some ⟨b, off, none⟩) n ca] 28)).alloc (.cells #[.int .i64 5, .int .i64 0, .int .i64 0, .string ⟨#[]⟩, .slice A na cn] 66) = W at *
  have q1 := hq 0; have q4 := hq 3
  clear hq c0 c1 c2 c3 c4
  go_quiet (fail)
  go_wp2_with fail
  go_ret
  exact ⟨rfl, hf.drewN _⟩
set_option maxRecDepth 100000 in
set_option maxHeartbeats 2000000 in
theorem nodeError_op6 (X1 X2 X3 X4 X5 X6 : Value) (b off n ca i : Nat) (A : Option Addr) (na cn : Nat) (w : World) (hi0 : i < n) (hb : b < w.heap.size)
    (c0 : w.cell? ⟨b, off + i * 5, none⟩ = some (.int .i64 6)) (c1 : w.cell? ⟨b, off + i * 5 + 1, none⟩ = some (.int .i64 0)) (c2 : w.cell? ⟨b, off + i * 5 + 2, none⟩ = some (.int .i64 0)) (c3 : w.cell? ⟨b, off + i * 5 + 3, none⟩ = some (.string ⟨#[]⟩)) (c4 : w.cell? ⟨b, off + i * 5 + 4, none⟩ = some (.slice A na cn)) (_hn : n ≤ 1000) :
    Calls Tryz.prog 74 #[.agg #[.int .i64 2, X1, X2, X3, X4, X5, X6, .slice (some ⟨b, off, none⟩) n ca], .int .i64 i, .int .i64 1] w fun e w' => e = .returned (.int .i64 0) ∧ Fr w.heap.size w w' := by
  have hf := ((Fr.self w).alloc (.cells #[.int .i64 2, X1, X2, X3, X4, X5, X6, .slice (some ⟨b, off, none⟩) n ca] 28)).alloc (.cells #[.int .i64 6, .int .i64 0, .int .i64 0, .string ⟨#[]⟩, .slice A na cn] 66)
  have hst : standB 6 1 = true := rfl
  have Hms := Lib.hid (fun w => hst ▸ mayStand_any 6 1 w)
  have hi1 : (0 : Int) ≤ i := by omega
  have hi2 : (i : Int) < n := by omega
  clear hst
  go_enter Tryz.func74, Tryz.ntmps74
  go_wp2_with fail
  refine (Hms.out _).mono ?_
  rintro e w' ⟨rfl, rfl⟩
  go_wp2_with fail
  have hq : ∀ k, ((w.alloc (.cells #[.int .i64 2, X1, X2, X3, X4, X5, X6, .slice (some ⟨b, off, none⟩) n ca] 28)).alloc (.cells #[.int .i64 6, .int .i64 0, .int .i64 0, .string ⟨#[]⟩, .slice A na cn] 66)).cell? ⟨w.heap.size + 1, k, none⟩ = #[.int .i64 6, .int .i64 0, .int .i64 0, .string ⟨#[]⟩, .slice A na cn][k]? := fun k => by
    have := cell_new (w.alloc (.cells #[.int .i64 2, X1, X2, X3, X4, X5, X6, .slice (some ⟨b, off, none⟩) n ca] 28)) #[.int .i64 6, .int .i64 0, .int .i64 0, .string ⟨#[]⟩, .slice A na cn] 66 k
    rwa [World.size_alloc] at this
  generalize (w.alloc (.cells #[.int .i64 2, X1, X2, X3, X4, X5, X6, .slice (some ⟨b, off, none⟩) n ca] 28)).alloc (.cells #[.int .i64 6, .int .i64 0, .int .i64 0, .string ⟨#[]⟩, .slice A na cn] 66) = W at *
  have q1 := hq 0; have q4 := hq 3
  clear hq c0 c1 c2 c3 c4
  go_quiet (fail)
  go_wp2_with fail
  go_ret
  exact ⟨rfl, hf.drewN _⟩
end Go.Proofs.YtgdedcdjfljcnaaGreatDoor
