/- Nodes of constraints of whole numbers, each by itself: nodeError. -/
import Derived.Test.YtoelifebmhlokaaGreatDoorSSubz
namespace Go.Proofs.YtoelifebmhlokaaGreatDoor
open Go.RowKit

theorem bounds_num (k : Int) (w : World) : Calls Tryz.prog 86 #[.int .i64 k, .int .i64 1] w fun e w' => e = .returned (.agg #[.int .i64 (-1152921504606846976), .int .i64 1152921504606846976]) ∧ Fr w.heap.size w w' := by
  have hf := (Fr.self w).alloc (.cells #[.int .i64 0, .int .i64 0] 53)
  have Hw := Lib.hid (wholeNumbers_any (w.alloc (.cells #[.int .i64 0, .int .i64 0] 53)))
  have c0 := cell_new w #[.int .i64 0, .int .i64 0] 53 0
  have c1 := cell_new w #[.int .i64 0, .int .i64 0] 53 1
  have z0 := frozen_new w #[.int .i64 0, .int .i64 0] 53 0
  have z1 := frozen_new w #[.int .i64 0, .int .i64 0] 53 1
  go_enter Tryz.func86, Tryz.ntmps86
  go_wp2_with fail
  refine (Hw.out).mono ?_
  rintro e w1 ⟨rfl, hf1⟩
  replace c0 := (hf1.cell (p := ⟨w.heap.size, 0, none⟩) (by simp)).trans c0
  replace c1 := (hf1.cell (p := ⟨w.heap.size, 1, none⟩) (by simp)).trans c1
  replace z0 := (hf1.frozen (p := ⟨w.heap.size, 0, none⟩) (by simp)).trans z0
  replace z1 := (hf1.frozen (p := ⟨w.heap.size, 1, none⟩) (by simp)).trans z1
  have hfw : Fr w.heap.size w w1 := hf.trans hf1
  clear hf hf1
  go_wp2_with fail
  exact bodyPost_ret (v := .agg #[.int .i64 (-1152921504606846976), .int .i64 1152921504606846976]) (by simp [results, Tryz.results86, go_sem, *]) rfl ⟨rfl, (hfw.setCell (Nat.le_refl _) _).setCell (Nat.le_refl _) _⟩

set_option maxRecDepth 100000 in
set_option maxHeartbeats 2000000 in
/-- A range of whole numbers may stand in a constraint of them. -/
theorem nodeError_range (X1 X2 X3 X4 X5 X6 : Value) (b off n ca i : Nat) (lo hi : Int) (A : Option Addr) (na cn : Nat) (w : World) (hi0 : i < n) (hb : b < w.heap.size) (hlo : -1152921504606846976 ≤ lo) (hlh : lo ≤ hi) (hhi : hi ≤ 1152921504606846976)
    (c0 : w.cell? ⟨b, off + i * 5, none⟩ = some (.int .i64 0)) (c1 : w.cell? ⟨b, off + i * 5 + 1, none⟩ = some (.int .i64 lo)) (c2 : w.cell? ⟨b, off + i * 5 + 2, none⟩ = some (.int .i64 hi)) (c3 : w.cell? ⟨b, off + i * 5 + 3, none⟩ = some (.string ⟨#[]⟩)) (c4 : w.cell? ⟨b, off + i * 5 + 4, none⟩ = some (.slice A na cn)) (hn : n ≤ 1000) :
    Calls Tryz.prog 59 #[.agg #[.int .i64 2, X1, X2, X3, X4, X5, X6, .slice (some ⟨b, off, none⟩) n ca], .int .i64 i, .int .i64 1] w fun e w' => e = .returned (.int .i64 0) ∧ Fr w.heap.size w w' := by
  have hf := ((Fr.self w).alloc (.cells #[.int .i64 2, X1, X2, X3, X4, X5, X6, .slice (some ⟨b, off, none⟩) n ca] 45)).alloc (.cells #[.int .i64 0, .int .i64 lo, .int .i64 hi, .string ⟨#[]⟩, .slice A na cn] 65)
  have Hsp := Lib.hid (spanOf_any 0 lo hi ⟨#[]⟩ A na cn)
  have Hbd := Lib.hid (bounds_num 2)
  have Hw := Lib.hid (iw_any lo hi (-1152921504606846976) 1152921504606846976 true (decide_eq_true ⟨hlh, hlo, hhi⟩))
  have hst : standB 0 1 = true := rfl
  have Hms := Lib.hid (fun w => hst ▸ mayStand_any 0 1 w)
  have hi1 : (0 : Int) ≤ i := by omega
  have hi2 : (i : Int) < n := by omega
  clear hlo hhi hlh hst
  go_enter Tryz.func59, Tryz.ntmps59
  go_wp2_with fail
  refine (Hms.out _).mono ?_
  rintro e w' ⟨rfl, rfl⟩
  go_wp2_with fail
  have q0 : ((w.alloc (.cells #[.int .i64 2, X1, X2, X3, X4, X5, X6, .slice (some ⟨b, off, none⟩) n ca] 45)).alloc (.cells #[.int .i64 0, .int .i64 lo, .int .i64 hi, .string ⟨#[]⟩, .slice A na cn] 65)).cell? ⟨w.heap.size, 0, none⟩ = some (.int .i64 2) := (World.cell?_alloc_lt _ _ _ (by simp)).trans (cell_new w _ _ 0)
  have hq : ∀ k, ((w.alloc (.cells #[.int .i64 2, X1, X2, X3, X4, X5, X6, .slice (some ⟨b, off, none⟩) n ca] 45)).alloc (.cells #[.int .i64 0, .int .i64 lo, .int .i64 hi, .string ⟨#[]⟩, .slice A na cn] 65)).cell? ⟨w.heap.size + 1, k, none⟩ = #[.int .i64 0, .int .i64 lo, .int .i64 hi, .string ⟨#[]⟩, .slice A na cn][k]? := fun k => by
    have := cell_new (w.alloc (.cells #[.int .i64 2, X1, X2, X3, X4, X5, X6, .slice (some ⟨b, off, none⟩) n ca] 45)) #[.int .i64 0, .int .i64 lo, .int .i64 hi, .string ⟨#[]⟩, .slice A na cn] 65 k
    rwa [World.size_alloc] at this
  have hqz : w.heap.size + 1 < ((w.alloc (.cells #[.int .i64 2, X1, X2, X3, X4, X5, X6, .slice (some ⟨b, off, none⟩) n ca] 45)).alloc (.cells #[.int .i64 0, .int .i64 lo, .int .i64 hi, .string ⟨#[]⟩, .slice A na cn] 65)).heap.size := by simp
  generalize (w.alloc (.cells #[.int .i64 2, X1, X2, X3, X4, X5, X6, .slice (some ⟨b, off, none⟩) n ca] 45)).alloc (.cells #[.int .i64 0, .int .i64 lo, .int .i64 hi, .string ⟨#[]⟩, .slice A na cn] 65) = W at *
  have q1 := hq 0; have q2 := hq 1; have q3 := hq 2; have q4 := hq 3; have q5 := hq 4
  clear hq c0 c1 c2 c3 c4
  go_region_held3 (fun w' => Fr w.heap.size w w' ∧ w.heap.size + 1 < w'.heap.size ∧ w'.cell? ⟨w.heap.size, 0, none⟩ = some (.int .i64 2) ∧ w'.cell? ⟨w.heap.size + 1, 0, none⟩ = some (.int .i64 0) ∧ w'.cell? ⟨w.heap.size + 1, 1, none⟩ = some (.int .i64 lo) ∧ w'.cell? ⟨w.heap.size + 1, 2, none⟩ = some (.int .i64 hi) ∧ w'.cell? ⟨w.heap.size + 1, 3, none⟩ = some (.string ⟨#[]⟩) ∧ w'.cell? ⟨w.heap.size + 1, 4, none⟩ = some (.slice A na cn))
    (first
      | (go_split_ands; exact ⟨Fr.trans (by assumption) hf5, Nat.lt_of_lt_of_le (by assumption) hf5.2.size, (hf5.cell (p := ⟨w.heap.size, 0, none⟩) (by first | assumption | exact Nat.lt_of_succ_lt (by assumption))).trans (by assumption), (hf5.cell (p := ⟨w.heap.size + 1, 0, none⟩) (by first | assumption | exact Nat.lt_of_succ_lt (by assumption))).trans (by assumption), (hf5.cell (p := ⟨w.heap.size + 1, 1, none⟩) (by first | assumption | exact Nat.lt_of_succ_lt (by assumption))).trans (by assumption), (hf5.cell (p := ⟨w.heap.size + 1, 2, none⟩) (by first | assumption | exact Nat.lt_of_succ_lt (by assumption))).trans (by assumption), (hf5.cell (p := ⟨w.heap.size + 1, 3, none⟩) (by first | assumption | exact Nat.lt_of_succ_lt (by assumption))).trans (by assumption), (hf5.cell (p := ⟨w.heap.size + 1, 4, none⟩) (by first | assumption | exact Nat.lt_of_succ_lt (by assumption))).trans (by assumption)⟩)
      | (go_split_ands; exact ⟨Fr.trans (by assumption) hf6, Nat.lt_of_lt_of_le (by assumption) hf6.2.size, (hf6.cell (p := ⟨w.heap.size, 0, none⟩) (by first | assumption | exact Nat.lt_of_succ_lt (by assumption))).trans (by assumption), (hf6.cell (p := ⟨w.heap.size + 1, 0, none⟩) (by first | assumption | exact Nat.lt_of_succ_lt (by assumption))).trans (by assumption), (hf6.cell (p := ⟨w.heap.size + 1, 1, none⟩) (by first | assumption | exact Nat.lt_of_succ_lt (by assumption))).trans (by assumption), (hf6.cell (p := ⟨w.heap.size + 1, 2, none⟩) (by first | assumption | exact Nat.lt_of_succ_lt (by assumption))).trans (by assumption), (hf6.cell (p := ⟨w.heap.size + 1, 3, none⟩) (by first | assumption | exact Nat.lt_of_succ_lt (by assumption))).trans (by assumption), (hf6.cell (p := ⟨w.heap.size + 1, 4, none⟩) (by first | assumption | exact Nat.lt_of_succ_lt (by assumption))).trans (by assumption)⟩)
      | (go_split_ands; exact ⟨Fr.trans (by assumption) hf7, Nat.lt_of_lt_of_le (by assumption) hf7.2.size, (hf7.cell (p := ⟨w.heap.size, 0, none⟩) (by first | assumption | exact Nat.lt_of_succ_lt (by assumption))).trans (by assumption), (hf7.cell (p := ⟨w.heap.size + 1, 0, none⟩) (by first | assumption | exact Nat.lt_of_succ_lt (by assumption))).trans (by assumption), (hf7.cell (p := ⟨w.heap.size + 1, 1, none⟩) (by first | assumption | exact Nat.lt_of_succ_lt (by assumption))).trans (by assumption), (hf7.cell (p := ⟨w.heap.size + 1, 2, none⟩) (by first | assumption | exact Nat.lt_of_succ_lt (by assumption))).trans (by assumption), (hf7.cell (p := ⟨w.heap.size + 1, 3, none⟩) (by first | assumption | exact Nat.lt_of_succ_lt (by assumption))).trans (by assumption), (hf7.cell (p := ⟨w.heap.size + 1, 4, none⟩) (by first | assumption | exact Nat.lt_of_succ_lt (by assumption))).trans (by assumption)⟩)
      | (go_split_ands; exact ⟨hf.drew, hqz, q0, q1, q2, q3, q4, q5⟩)
      | go_keep)
    (first
      | (go_at_call 60; refine (Hsp.out _).mono ?_; rintro e w5 ⟨rfl, hf5⟩)
      | (go_at_call 86; refine (Hbd.out _).mono ?_; rintro e w6 ⟨rfl, hf6⟩)
      | (go_at_call 18; refine (Hw.out _).mono ?_; rintro e w7 ⟨rfl, hf7⟩))
  all_goals
    rename_i hHeld
    obtain ⟨hF, p0, p1, p2, p3, p4, p5, p6⟩ := hHeld
    clear hf q0 q1 q2 q3 q4 q5 hqz hf5 hf6 hf7
    go_wp2_with fail
    go_ret
    exact ⟨rfl, hF⟩

set_option maxRecDepth 100000 in
set_option maxHeartbeats 2000000 in
/-- A marker may stand at the end of a constraint of whole numbers. -/
theorem nodeError_marker (X1 X2 X3 X4 X5 X6 : Value) (b off n ca i : Nat) (A : Option Addr) (na cn : Nat) (w : World) (hi0 : i + 1 = n) (hb : b < w.heap.size)
    (c0 : w.cell? ⟨b, off + i * 5, none⟩ = some (.int .i64 7)) (c1 : w.cell? ⟨b, off + i * 5 + 1, none⟩ = some (.int .i64 0)) (c2 : w.cell? ⟨b, off + i * 5 + 2, none⟩ = some (.int .i64 0)) (c3 : w.cell? ⟨b, off + i * 5 + 3, none⟩ = some (.string ⟨#[]⟩)) (c4 : w.cell? ⟨b, off + i * 5 + 4, none⟩ = some (.slice A na cn)) (hn : n ≤ 1000) :
    Calls Tryz.prog 59 #[.agg #[.int .i64 2, X1, X2, X3, X4, X5, X6, .slice (some ⟨b, off, none⟩) n ca], .int .i64 i, .int .i64 1] w fun e w' => e = .returned (.int .i64 0) ∧ Fr w.heap.size w w' := by
  have hf := ((Fr.self w).alloc (.cells #[.int .i64 2, X1, X2, X3, X4, X5, X6, .slice (some ⟨b, off, none⟩) n ca] 45)).alloc (.cells #[.int .i64 7, .int .i64 0, .int .i64 0, .string ⟨#[]⟩, .slice A na cn] 65)
  have hst : standB 7 1 = true := rfl
  have Hms := Lib.hid (fun w => hst ▸ mayStand_any 7 1 w)
  have hi1 : (0 : Int) ≤ i := by omega
  have hi2 : (i : Int) < n := by omega
  have hi3 : (n : Int) - 1 = i := by omega
  clear hst
  go_enter Tryz.func59, Tryz.ntmps59
  go_wp2_with fail
  refine (Hms.out _).mono ?_
  rintro e w' ⟨rfl, rfl⟩
  go_wp2_with fail
  have hq : ∀ k, ((w.alloc (.cells #[.int .i64 2, X1, X2, X3, X4, X5, X6, .slice (some ⟨b, off, none⟩) n ca] 45)).alloc (.cells #[.int .i64 7, .int .i64 0, .int .i64 0, .string ⟨#[]⟩, .slice A na cn] 65)).cell? ⟨w.heap.size + 1, k, none⟩ = #[.int .i64 7, .int .i64 0, .int .i64 0, .string ⟨#[]⟩, .slice A na cn][k]? := fun k => by
    have := cell_new (w.alloc (.cells #[.int .i64 2, X1, X2, X3, X4, X5, X6, .slice (some ⟨b, off, none⟩) n ca] 45)) #[.int .i64 7, .int .i64 0, .int .i64 0, .string ⟨#[]⟩, .slice A na cn] 65 k
    rwa [World.size_alloc] at this
  generalize (w.alloc (.cells #[.int .i64 2, X1, X2, X3, X4, X5, X6, .slice (some ⟨b, off, none⟩) n ca] 45)).alloc (.cells #[.int .i64 7, .int .i64 0, .int .i64 0, .string ⟨#[]⟩, .slice A na cn] 65) = W at *
  have q1 := hq 0; have q4 := hq 3
  clear hq c0 c1 c2 c3 c4
  go_quiet (fail)
  go_wp2_with fail
  go_ret
  exact ⟨rfl, hf.drewN _⟩
end Go.Proofs.YtoelifebmhlokaaGreatDoor
