/- The reference's look at what a type of whole numbers has none of: forms (root). -/
import Derived.Test.YtgdedcdjfljcnaaGreatDoorM21
import Derived.BigGuard
import Derived.Deep.CutBlock
namespace Go.Proofs.YtgdedcdjfljcnaaGreatDoor
open Go.RowKit

set_option maxRecDepth 20000 in
set_option maxHeartbeats 4000000 in
theorem forms_root (ofn : Nat) (root : Int) (h : ¬ root = 0) (A1 A2 A3 A4 : Option Addr) (tn ln c1 c2 c3 c4 : Nat) (w : World) :
    Calls Tryz.prog 121 #[.agg #[.int .i64 2, .string ⟨#[]⟩, .slice A1 tn c1, .slice A2 0 c2, .bool false, .int .i64 root, .slice A3 ofn c3, .slice A4 ln c4]] w fun e w' => e = .returned (.bool true) ∧ Fr w.heap.size w w' := by
  have hf := (Fr.self w).alloc (.cells #[.int .i64 2, .string ⟨#[]⟩, .slice A1 tn c1, .slice A2 0 c2, .bool false, .int .i64 root, .slice A3 ofn c3, .slice A4 ln c4] 28)
  have Hir := Lib.hid isRecord_two
  have hb : (root != 0) = true := by simpa using h
  go_enter Tryz.func121, Tryz.ntmps121
  go_upto_region 5 with (go_at_call 145; refine (Hir.out _).mono ?_; rintro e w' ⟨rfl, rfl⟩)
  generalize hW : w.alloc (.cells #[.int .i64 2, .string ⟨#[]⟩, .slice A1 tn c1, .slice A2 0 c2, .bool false, .int .i64 root, .slice A3 ofn c3, .slice A4 ln c4] 28) = W at *
  have k0 : W.cell? ⟨w.heap.size, 0, none⟩ = some (.int .i64 2) := by rw [← hW]; exact cell_new w _ _ 0
  have k1 : W.cell? ⟨w.heap.size, 1, none⟩ = some (.string ⟨#[]⟩) := by rw [← hW]; exact cell_new w _ _ 1
  have k3 : W.cell? ⟨w.heap.size, 3, none⟩ = some (.slice A2 0 c2) := by rw [← hW]; exact cell_new w _ _ 3
  have k4 : W.cell? ⟨w.heap.size, 4, none⟩ = some (.bool false) := by rw [← hW]; exact cell_new w _ _ 4
  have k5 : W.cell? ⟨w.heap.size, 5, none⟩ = some (.int .i64 root) := by rw [← hW]; exact cell_new w _ _ 5
  clear hW
  go_cut [123] from 56 to 122 (fun s123 wx => s123 = .bool true ∧ wx = W)
  case first =>
    dsimp only [List.append]
    go_wp2_with fail
    go_meet
    exact ⟨rfl, rfl⟩
  case rest =>
    obtain ⟨rfl, rfl⟩ := hcut
    go_wp2_with fail
    go_ret
    exact ⟨rfl, hf⟩
end Go.Proofs.YtgdedcdjfljcnaaGreatDoor
