/- The reference's look at what a type of whole numbers has none of: forms (of). The reference's look at what a type of whole numbers has none of: forms (plain). -/
import Derived.Test.YtgdedcdjfljcnaaGreatDoorM21
namespace Go.Proofs.YtgdedcdjfljcnaaGreatDoor
open Go.RowKit
attribute [local go_sem] undef_bool undef_bool2

set_option maxRecDepth 20000 in
set_option maxHeartbeats 4000000 in
theorem forms_of (ofn : Nat) (h : 0 < ofn) (A1 A2 A3 A4 : Option Addr) (tn ln c1 c2 c3 c4 : Nat) (w : World) :
    Calls Tryz.prog 121 #[.agg #[.int .i64 2, .string ⟨#[]⟩, .slice A1 tn c1, .slice A2 0 c2, .bool false, .int .i64 0, .slice A3 ofn c3, .slice A4 ln c4]] w fun e w' => e = .returned (.bool true) ∧ Fr w.heap.size w w' := by
  have hf := (Fr.self w).alloc (.cells #[.int .i64 2, .string ⟨#[]⟩, .slice A1 tn c1, .slice A2 0 c2, .bool false, .int .i64 0, .slice A3 ofn c3, .slice A4 ln c4] 28)
  have Hir := Lib.hid isRecord_two
  have hi : (0 : Int) < ofn := by omega
  go_enter Tryz.func121, Tryz.ntmps121
  go_wp2_with (go_at_call 145; refine (Hir.out _).mono ?_; rintro e w' ⟨rfl, rfl⟩)
  go_ret
  exact ⟨rfl, hf⟩
end Go.Proofs.YtgdedcdjfljcnaaGreatDoor
namespace Go.Proofs.YtgdedcdjfljcnaaGreatDoor
open Go.RowKit

set_option maxRecDepth 20000 in
set_option maxHeartbeats 4000000 in
theorem forms_plain (A1 A2 A3 A4 : Option Addr) (tn ln c1 c2 c3 c4 : Nat) (w : World) :
    Calls Tryz.prog 121 #[.agg #[.int .i64 2, .string ⟨#[]⟩, .slice A1 tn c1, .slice A2 0 c2, .bool false, .int .i64 0, .slice A3 0 c3, .slice A4 ln c4]] w fun e w' => e = .returned (.bool false) ∧ Fr w.heap.size w w' := by
  have hf := (Fr.self w).alloc (.cells #[.int .i64 2, .string ⟨#[]⟩, .slice A1 tn c1, .slice A2 0 c2, .bool false, .int .i64 0, .slice A3 0 c3, .slice A4 ln c4] 28)
  have Hir := Lib.hid isRecord_two
  have Hil := Lib.hid isLimited_two
  have Hk := Lib.hid (fun k => cell_new w #[.int .i64 2, .string ⟨#[]⟩, .slice A1 tn c1, .slice A2 0 c2, .bool false, .int .i64 0, .slice A3 0 c3, .slice A4 ln c4] 28 k)
  go_enter Tryz.func121, Tryz.ntmps121
  go_wp2_with (go_at_call 145; refine (Hir.out _).mono ?_; rintro e w' ⟨rfl, rfl⟩)
  refine (Hil.out _).mono ?_
  rintro e w1 ⟨rfl, hf1⟩
  have k3 : w1.cell? ⟨w.heap.size, 3, none⟩ = some (.slice A2 0 c2) := (hf1.cell (p := ⟨w.heap.size, 3, none⟩) (by simp)).trans (Hk.out 3)
  clear Hk
  go_wp2_with fail
  refine wp_loop_rounds 1 ?_
  rw [rounds_succ]
  go_wp2_with fail
  go_ret
  exact ⟨rfl, hf.trans hf1⟩
end Go.Proofs.YtgdedcdjfljcnaaGreatDoor
