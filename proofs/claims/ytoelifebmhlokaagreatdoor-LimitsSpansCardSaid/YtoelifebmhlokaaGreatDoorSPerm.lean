/- What the example's constraint permits. -/
import Derived.Test.YtoelifebmhlokaaGreatDoorSNums
namespace Go.Proofs.YtoelifebmhlokaaGreatDoor
open Go.RowKit

set_option maxRecDepth 100000 in
theorem permitted_E {B : Nat} (b off c : Nat) (w : World) (h : LimAt B w (some ⟨b, off, none⟩) exE) (hB : B ≤ w.heap.size) :
    Calls Tryz.prog 28 #[.agg #[.int .i64 2, .string ⟨#[]⟩, .slice none 0 0, .slice none 0 0, .bool false, .int .i64 0, .slice none 0 0, .slice (some ⟨b, off, none⟩) 3 c]] w fun e w' => ∃ A cn, e = .returned (.slice A [(⟨1, 5⟩ : Sp), ⟨8, 8⟩].length cn) ∧ SpAt w'.heap.size w' A [⟨1, 5⟩, ⟨8, 8⟩] ∧ Fr w.heap.size w w' := by
  have hf := (Fr.self w).alloc (.cells #[.int .i64 2, .string ⟨#[]⟩, .slice none 0 0, .slice none 0 0, .bool false, .int .i64 0, .slice none 0 0, .slice (some ⟨b, off, none⟩) 3 c] 45)
  have Hn := Lib.hid (numbersOf_E b off c (w.alloc (.cells #[.int .i64 2, .string ⟨#[]⟩, .slice none 0 0, .slice none 0 0, .bool false, .int .i64 0, .slice none 0 0, .slice (some ⟨b, off, none⟩) 3 c] 45)) (h.keep (hf.2.mono hB)) (Nat.le_trans hB hf.2.size))
  clear h
  go_enter Tryz.func28, Tryz.ntmps28
  go_wp2_with fail
  refine (Hn.out).mono ?_
  rintro e w1 ⟨A, cn, rfl, hsp, hf1⟩
  go_wp2_with fail
  go_ret
  exact ⟨A, cn, rfl, hsp, hf.trans hf1⟩
set_option maxRecDepth 100000 in
theorem permitted_R {B : Nat} (b off c : Nat) (w : World) (h : LimAt B w (some ⟨b, off, none⟩) exE) (hB : B ≤ w.heap.size) :
    Calls Tryz.prog 28 #[.agg #[.int .i64 2, .string ⟨#[]⟩, .slice none 0 0, .slice none 0 0, .bool false, .int .i64 0, .slice none 0 0, .slice (some ⟨b, off, none⟩) 1 c]] w fun e w' => ∃ A cn, e = .returned (.slice A [(⟨1, 5⟩ : Sp)].length cn) ∧ SpAt w'.heap.size w' A [⟨1, 5⟩] ∧ Fr w.heap.size w w' := by
  have hf := (Fr.self w).alloc (.cells #[.int .i64 2, .string ⟨#[]⟩, .slice none 0 0, .slice none 0 0, .bool false, .int .i64 0, .slice none 0 0, .slice (some ⟨b, off, none⟩) 1 c] 45)
  have Hn := Lib.hid (numbersOf_0 b off 1 c (w.alloc (.cells #[.int .i64 2, .string ⟨#[]⟩, .slice none 0 0, .slice none 0 0, .bool false, .int .i64 0, .slice none 0 0, .slice (some ⟨b, off, none⟩) 1 c] 45)) (h.keep (hf.2.mono hB)) (by omega))
  clear h
  go_enter Tryz.func28, Tryz.ntmps28
  go_wp2_with fail
  refine (Hn.out).mono ?_
  rintro e w1 ⟨g, rfl, -, hsp, hf1⟩
  go_wp2_with fail
  go_ret
  exact ⟨some ⟨g, 0, none⟩, 1, rfl, hsp, hf.trans hf1⟩
set_option maxRecDepth 100000 in
set_option maxHeartbeats 2000000 in
theorem isPermitted_of (V : Value) (sp : List Sp) (v : Int) (w : World) (hsl : sp.length ≤ 1000)
    (hP : ∀ w', Fr w.heap.size w w' → Calls Tryz.prog 28 #[.agg #[.int .i64 2, .string ⟨#[]⟩, .slice none 0 0, .slice none 0 0, .bool false, .int .i64 0, .slice none 0 0, V]] w' fun e w2 => ∃ A cn, e = .returned (.slice A sp.length cn) ∧ SpAt w2.heap.size w2 A sp ∧ Fr w'.heap.size w' w2) :
    Calls Tryz.prog 24 #[.agg #[.int .i64 2, .string ⟨#[]⟩, .slice none 0 0, .slice none 0 0, .bool false, .int .i64 0, .slice none 0 0, V], .agg #[.int .i64 2, .int .i64 v, .int .i64 0, .string ⟨#[]⟩, .slice none 0 0, .slice none 0 0]] w fun e w' => e = .returned (.bool (inB sp v)) ∧ Fr w.heap.size w w' := by
  have hf := ((Fr.self w).alloc (.cells #[.int .i64 2, .string ⟨#[]⟩, .slice none 0 0, .slice none 0 0, .bool false, .int .i64 0, .slice none 0 0, V] 45)).alloc (.cells #[.int .i64 2, .int .i64 v, .int .i64 0, .string ⟨#[]⟩, .slice none 0 0, .slice none 0 0] 50)
  have hq : ∀ k, ((w.alloc (.cells #[.int .i64 2, .string ⟨#[]⟩, .slice none 0 0, .slice none 0 0, .bool false, .int .i64 0, .slice none 0 0, V] 45)).alloc (.cells #[.int .i64 2, .int .i64 v, .int .i64 0, .string ⟨#[]⟩, .slice none 0 0, .slice none 0 0] 50)).cell? ⟨w.heap.size, k, none⟩ = #[.int .i64 2, .string ⟨#[]⟩, .slice none 0 0, .slice none 0 0, .bool false, .int .i64 0, .slice none 0 0, V][k]? := fun k => (World.cell?_alloc_lt _ _ _ (by simp)).trans (cell_new w _ _ k)
  have hv : ((w.alloc (.cells #[.int .i64 2, .string ⟨#[]⟩, .slice none 0 0, .slice none 0 0, .bool false, .int .i64 0, .slice none 0 0, V] 45)).alloc (.cells #[.int .i64 2, .int .i64 v, .int .i64 0, .string ⟨#[]⟩, .slice none 0 0, .slice none 0 0] 50)).cell? ⟨w.heap.size + 1, 1, none⟩ = some (.int .i64 v) := by
    have := cell_new (w.alloc (.cells #[.int .i64 2, .string ⟨#[]⟩, .slice none 0 0, .slice none 0 0, .bool false, .int .i64 0, .slice none 0 0, V] 45)) #[.int .i64 2, .int .i64 v, .int .i64 0, .string ⟨#[]⟩, .slice none 0 0, .slice none 0 0] 50 1
    rwa [World.size_alloc] at this
  have HP := Lib.hid hP
  have Hh := Lib.hid (fun (A : Option Addr) (cn : Nat) w (h : SpAt w.heap.size w A sp) => has_any (B := w.heap.size) sp v A cn w h (Nat.le_refl _) (by omega))
  clear hP
  go_enter Tryz.func24, Tryz.ntmps24
  go_wp2_with fail
  have hqz : w.heap.size + 1 < ((w.alloc (.cells #[.int .i64 2, .string ⟨#[]⟩, .slice none 0 0, .slice none 0 0, .bool false, .int .i64 0, .slice none 0 0, V] 45)).alloc (.cells #[.int .i64 2, .int .i64 v, .int .i64 0, .string ⟨#[]⟩, .slice none 0 0, .slice none 0 0] 50)).heap.size := by simp
  generalize (w.alloc (.cells #[.int .i64 2, .string ⟨#[]⟩, .slice none 0 0, .slice none 0 0, .bool false, .int .i64 0, .slice none 0 0, V] 45)).alloc (.cells #[.int .i64 2, .int .i64 v, .int .i64 0, .string ⟨#[]⟩, .slice none 0 0, .slice none 0 0] 50) = W at *
  have q0 := hq 0; have q1 := hq 1; have q2 := hq 2; have q3 := hq 3; have q4 := hq 4; have q5 := hq 5; have q6 := hq 6; have q7 := hq 7
  clear hq
  go_region_held3 (fun w' => Fr w.heap.size w w' ∧ w.heap.size + 1 < w'.heap.size ∧ w'.cell? ⟨w.heap.size + 1, 1, none⟩ = some (.int .i64 v) ∧ w'.cell? ⟨w.heap.size, 0, none⟩ = some (.int .i64 2) ∧ w'.cell? ⟨w.heap.size, 1, none⟩ = some (.string ⟨#[]⟩) ∧ w'.cell? ⟨w.heap.size, 2, none⟩ = some (.slice none 0 0) ∧ w'.cell? ⟨w.heap.size, 3, none⟩ = some (.slice none 0 0) ∧ w'.cell? ⟨w.heap.size, 4, none⟩ = some (.bool false) ∧ w'.cell? ⟨w.heap.size, 5, none⟩ = some (.int .i64 0) ∧ w'.cell? ⟨w.heap.size, 6, none⟩ = some (.slice none 0 0) ∧ w'.cell? ⟨w.heap.size, 7, none⟩ = some V)
    (first
      | (go_split_ands; exact ⟨Fr.trans (by assumption) hf5, Nat.lt_of_lt_of_le (by assumption) hf5.2.size, (hf5.cell (p := ⟨w.heap.size + 1, 1, none⟩) (by first | assumption | exact Nat.lt_of_succ_lt (by assumption))).trans (by assumption), (hf5.cell (p := ⟨w.heap.size, 0, none⟩) (by first | assumption | exact Nat.lt_of_succ_lt (by assumption))).trans (by assumption), (hf5.cell (p := ⟨w.heap.size, 1, none⟩) (by first | assumption | exact Nat.lt_of_succ_lt (by assumption))).trans (by assumption), (hf5.cell (p := ⟨w.heap.size, 2, none⟩) (by first | assumption | exact Nat.lt_of_succ_lt (by assumption))).trans (by assumption), (hf5.cell (p := ⟨w.heap.size, 3, none⟩) (by first | assumption | exact Nat.lt_of_succ_lt (by assumption))).trans (by assumption), (hf5.cell (p := ⟨w.heap.size, 4, none⟩) (by first | assumption | exact Nat.lt_of_succ_lt (by assumption))).trans (by assumption), (hf5.cell (p := ⟨w.heap.size, 5, none⟩) (by first | assumption | exact Nat.lt_of_succ_lt (by assumption))).trans (by assumption), (hf5.cell (p := ⟨w.heap.size, 6, none⟩) (by first | assumption | exact Nat.lt_of_succ_lt (by assumption))).trans (by assumption), (hf5.cell (p := ⟨w.heap.size, 7, none⟩) (by first | assumption | exact Nat.lt_of_succ_lt (by assumption))).trans (by assumption)⟩)
      | (go_split_ands; exact ⟨Fr.trans (by assumption) hf6, Nat.lt_of_lt_of_le (by assumption) hf6.2.size, (hf6.cell (p := ⟨w.heap.size + 1, 1, none⟩) (by first | assumption | exact Nat.lt_of_succ_lt (by assumption))).trans (by assumption), (hf6.cell (p := ⟨w.heap.size, 0, none⟩) (by first | assumption | exact Nat.lt_of_succ_lt (by assumption))).trans (by assumption), (hf6.cell (p := ⟨w.heap.size, 1, none⟩) (by first | assumption | exact Nat.lt_of_succ_lt (by assumption))).trans (by assumption), (hf6.cell (p := ⟨w.heap.size, 2, none⟩) (by first | assumption | exact Nat.lt_of_succ_lt (by assumption))).trans (by assumption), (hf6.cell (p := ⟨w.heap.size, 3, none⟩) (by first | assumption | exact Nat.lt_of_succ_lt (by assumption))).trans (by assumption), (hf6.cell (p := ⟨w.heap.size, 4, none⟩) (by first | assumption | exact Nat.lt_of_succ_lt (by assumption))).trans (by assumption), (hf6.cell (p := ⟨w.heap.size, 5, none⟩) (by first | assumption | exact Nat.lt_of_succ_lt (by assumption))).trans (by assumption), (hf6.cell (p := ⟨w.heap.size, 6, none⟩) (by first | assumption | exact Nat.lt_of_succ_lt (by assumption))).trans (by assumption), (hf6.cell (p := ⟨w.heap.size, 7, none⟩) (by first | assumption | exact Nat.lt_of_succ_lt (by assumption))).trans (by assumption)⟩)
      | (go_split_ands; exact ⟨hf.drew, hqz, hv, q0, q1, q2, q3, q4, q5, q6, q7⟩)
      | go_keep)
    (first
      | (go_at_call 28; refine (HP.out _ (by go_split_ands; assumption)).mono ?_; rintro e w5 ⟨A, cn, rfl, hsp, hf5⟩)
      | (go_at_call 34; refine (Hh.out _ _ _ hsp).mono ?_; rintro e w6 ⟨rfl, hf6⟩))
  all_goals
    rename_i hHeld
    have hF := hHeld.1
    clear hHeld
    go_wp2_with fail
    go_ret
    exact ⟨rfl, hF⟩
end Go.Proofs.YtoelifebmhlokaaGreatDoor
