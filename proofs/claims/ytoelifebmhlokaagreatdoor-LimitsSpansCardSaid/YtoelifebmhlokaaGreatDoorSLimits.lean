/- The example's constraint: CheckLimits. -/
import Derived.Test.YtoelifebmhlokaaGreatDoorSNode
namespace Go.Proofs.YtoelifebmhlokaaGreatDoor
open Go.RowKit

/-- INTEGER (1..5, ..., 8): its nodes. -/
def exE : List LN := [⟨0, 1, 5, [], []⟩, ⟨0, 8, 8, [], []⟩, ⟨7, 0, 0, [], [0, 1]⟩]
theorem exE_tree : tyErr exE = 0 := by decide
theorem exE_args : ∀ (i : Nat) (x : LN), exE[i]? = some x → (∀ a ∈ x.args, 0 ≤ a ∧ a < (i : Int)) ∧ x.args.length ≤ 20 := by
  intro i x hx
  rcases i with _ | _ | _ | i
  · cases hx; simp
  · cases hx; simp
  · cases hx; simp
  · simp [exE] at hx
theorem exE_subj (xs : List NX) (hl : xs.length = 3) (h : ∀ (k : Nat) x, xs[k]? = some x → x.i = 3 - 1 - k ∧ exE[x.i]? = some x.nd) : subjAll 2 3 xs = [1, 1, 1] := by
  obtain ⟨x0, x1, x2, rfl⟩ : ∃ a b c, xs = [a, b, c] := by
    rcases xs with _ | ⟨a, _ | ⟨b, _ | ⟨c, _ | _⟩⟩⟩ <;> simp_all
  obtain ⟨i0, n0⟩ := h 0 x0 rfl
  obtain ⟨i1, n1⟩ := h 1 x1 rfl
  obtain ⟨i2, n2⟩ := h 2 x2 rfl
  rw [i0] at n0; rw [i1] at n1; rw [i2] at n2
  have n0' : x0.nd = ⟨7, 0, 0, [], [0, 1]⟩ := by injection n0 with e; exact e.symm
  have n1' : x1.nd = ⟨0, 8, 8, [], []⟩ := by injection n1 with e; exact e.symm
  have n2' : x2.nd = ⟨0, 1, 5, [], []⟩ := by injection n2 with e; exact e.symm
  simp [subjAll, subjNode, subjTop, subjArg, i0, i1, i2, n0', n1', n2']
  decide

theorem subjects_E {B : Nat} (b off c : Nat) (w : World) (h : LimAt B w (some ⟨b, off, none⟩) exE) (hB : B ≤ w.heap.size) :
    Calls Tryz.prog 58 #[.agg #[.int .i64 2, .string ⟨#[]⟩, .slice none 0 0, .slice none 0 0, .bool false, .int .i64 0, .slice none 0 0, .slice (some ⟨b, off, none⟩) 3 c]] w fun e w' => e = .returned (.slice (some ⟨w.heap.size + 1, 0, none⟩) 3 3) ∧ Fr w.heap.size w w' ∧ w'.cell? ⟨w.heap.size + 1, 0, none⟩ = some (.int .i64 1) ∧ w'.cell? ⟨w.heap.size + 1, 1, none⟩ = some (.int .i64 1) ∧ w'.cell? ⟨w.heap.size + 1, 2, none⟩ = some (.int .i64 1) := by
  refine (subjects_any (B := B) exE (some ⟨b, off, none⟩) c 2 (.string ⟨#[]⟩) (.slice none 0 0) (.slice none 0 0) (.bool false) (.int .i64 0) (.slice none 0 0) w h hB (by decide) exE_args (by simp [exE])).mono ?_
  rintro e w2 ⟨xs, hxl, hxs, rfl, hb2, hrow⟩
  have hx := exE_subj xs hxl hxs
  change ∀ (j : Nat) x, (subjAll 2 3 xs)[j]? = some x → _ at hrow
  rw [hx] at hrow
  exact ⟨rfl, ⟨Nat.le_refl _, hb2⟩, hrow 0 1 rfl, hrow 1 1 rfl, hrow 2 1 rfl⟩
set_option maxRecDepth 100000 in
set_option maxHeartbeats 4000000 in
theorem CheckLimits_E {B : Nat} (b off c : Nat) (w : World) (h : LimAt B w (some ⟨b, off, none⟩) exE) (hB : B ≤ w.heap.size) (hp : PartTy w) :
    Calls Tryz.prog 43 #[.agg #[.int .i64 2, .string ⟨#[]⟩, .slice none 0 0, .slice none 0 0, .bool false, .int .i64 0, .slice none 0 0, .slice (some ⟨b, off, none⟩) 3 c]] w fun e w' => e = .returned (.tuple #[.int .i64 3, .int .i64 0]) ∧ Fr w.heap.size w w' := by
  have hf := (Fr.self w).alloc (.cells #[.int .i64 2, .string ⟨#[]⟩, .slice none 0 0, .slice none 0 0, .bool false, .int .i64 0, .slice none 0 0, .slice (some ⟨b, off, none⟩) 3 c] 45)
  have Hck := Lib.hid (fun w (h : LimAt B w (some ⟨b, off, none⟩) exE) hB hp => exE_tree ▸ CheckType_any (B := B) exE (some ⟨b, off, none⟩) c w h hB (by decide) (by simp [exE]) hp)
  have hsu : subj 2 = 1 := rfl
  have Hsu := Lib.hid (fun w => hsu ▸ subjectOf_any 2 w)
  have Hs := Lib.hid (fun w => subjects_E (B := B) b off c w)
  have Hk := Lib.hid (fun k => cell_new w #[.int .i64 2, .string ⟨#[]⟩, .slice none 0 0, .slice none 0 0, .bool false, .int .i64 0, .slice none 0 0, .slice (some ⟨b, off, none⟩) 3 c] 45 k)
  have Hn0 := Lib.hid (fun (A : Option Addr) (cn : Nat) w => nodeError_range (.string ⟨#[]⟩) (.slice none 0 0) (.slice none 0 0) (.bool false) (.int .i64 0) (.slice none 0 0) b off 3 c 0 1 5 A 0 cn w (by omega))
  have Hn1 := Lib.hid (fun (A : Option Addr) (cn : Nat) w => nodeError_range (.string ⟨#[]⟩) (.slice none 0 0) (.slice none 0 0) (.bool false) (.int .i64 0) (.slice none 0 0) b off 3 c 1 8 8 A 0 cn w (by omega))
  have Hn2 := Lib.hid (fun (A : Option Addr) (cn : Nat) w => nodeError_marker (.string ⟨#[]⟩) (.slice none 0 0) (.slice none 0 0) (.bool false) (.int .i64 0) (.slice none 0 0) b off 3 c 2 A 2 cn w (by omega))
  have hbB : b < B := by
    obtain ⟨h1, -⟩ := h.item (i := 0) rfl
    exact h1
  have H := Lib.hid h; have Hp := Lib.hid hp
  clear h hp hsu
  go_enter Tryz.func43, Tryz.ntmps43
  go_wp2_with fail
  refine (Hck.out _ (H.out.keep (hf.2.mono hB)) (Nat.le_trans hB hf.2.size) (Hp.out.keep hf.2)).mono ?_
  rintro e w1 ⟨rfl, hf1⟩
  have hk : ∀ k, w1.cell? ⟨w.heap.size, k, none⟩ = #[.int .i64 2, .string ⟨#[]⟩, .slice none 0 0, .slice none 0 0, .bool false, .int .i64 0, .slice none 0 0, .slice (some ⟨b, off, none⟩) 3 c][k]? := fun k => (hf1.cell (p := ⟨w.heap.size, k, none⟩) (by simp)).trans (Hk.out k)
  have hfw : Fr w.heap.size w w1 := hf.trans hf1
  have hz1 : w.heap.size < w1.heap.size := Nat.lt_of_lt_of_le (by simp) hf1.2.size
  clear hf hf1 Hk
  have k0 := hk 0; have k1 := hk 1; have k2 := hk 2; have k3 := hk 3; have k4 := hk 4; have k5 := hk 5; have k6 := hk 6; have k7 := hk 7
  have Hk := Lib.hid hk
  clear hk
  go_wp2_with (go_at_call 53; refine (Hsu.out _).mono ?_; rintro e w' ⟨rfl, rfl⟩)
  refine (Hs.out _ (H.out.keep (hfw.2.mono hB)) (Nat.le_trans hB hfw.2.size)).mono ?_
  rintro e w2 ⟨rfl, hf2, r0, r1, r2⟩
  have hz2 : w1.heap.size + 1 < w2.heap.size := cell_block r0
  have hF2 : Fr w.heap.size w w2 := hfw.trans hf2
  have hKK : ∀ k, w2.cell? ⟨w.heap.size, k, none⟩ = #[.int .i64 2, .string ⟨#[]⟩, .slice none 0 0, .slice none 0 0, .bool false, .int .i64 0, .slice none 0 0, .slice (some ⟨b, off, none⟩) 3 c][k]? := fun k => (hf2.cell (p := ⟨w.heap.size, k, none⟩) hz1).trans (Hk.out k)
  have HKK := Lib.hid hKK
  clear hKK Hk k0 k1 k2 k3 k4 k5 k6 k7 hf2 hfw
  have k0 := HKK.out 0; have k1 := HKK.out 1; have k2 := HKK.out 2; have k3 := HKK.out 3; have k4 := HKK.out 4; have k5 := HKK.out 5; have k6 := HKK.out 6; have k7 := HKK.out 7
  go_wp2_with fail
  refine wp_loop_rounds 4 ?_
  rw [rounds_succ]
  go_wp2_with fail
  obtain ⟨-, A0, ca0, -, e0, e1, e2, e3, e4⟩ := (H.out.keep (hF2.2.mono hB)).item (i := 0) rfl
  refine (Hn0.out A0 ca0 w2 (Nat.lt_of_lt_of_le hbB (Nat.le_trans hB hF2.2.size)) (by omega) (by omega) (by omega) e0 e1 e2 e3 e4 (by omega)).mono ?_
  rintro e w3 ⟨rfl, hf3⟩
  clear e0 e1 e2 e3 e4
  have hF3 : Fr w.heap.size w w3 := hF2.trans hf3
  have hG3 : Fr w2.heap.size w2 w3 := hf3
  clear hf3 k0 k1 k2 k3 k4 k5 k6 k7
  have hk : ∀ k, w3.cell? ⟨w.heap.size, k, none⟩ = #[.int .i64 2, .string ⟨#[]⟩, .slice none 0 0, .slice none 0 0, .bool false, .int .i64 0, .slice none 0 0, .slice (some ⟨b, off, none⟩) 3 c][k]? := fun k => (hG3.cell (p := ⟨w.heap.size, k, none⟩) (Nat.lt_trans hz1 (Nat.lt_of_succ_lt hz2))).trans (HKK.out k)
  have k0 := hk 0; have k1 := hk 1; have k2 := hk 2; have k3 := hk 3; have k4 := hk 4; have k5 := hk 5; have k6 := hk 6; have k7 := hk 7
  clear hk
  have t1 : w3.cell? ⟨w1.heap.size + 1, 1, none⟩ = some (.int .i64 1) := (hG3.cell (p := ⟨w1.heap.size + 1, 1, none⟩) hz2).trans r1
  go_wp2_with fail
  rw [rounds_succ]
  go_wp2_with fail
  obtain ⟨-, A1, ca1, -, e0, e1, e2, e3, e4⟩ := (H.out.keep (hF3.2.mono hB)).item (i := 1) rfl
  refine (Hn1.out A1 ca1 w3 (Nat.lt_of_lt_of_le hbB (Nat.le_trans hB hF3.2.size)) (by omega) (by omega) (by omega) e0 e1 e2 e3 e4 (by omega)).mono ?_
  rintro e w4 ⟨rfl, hf4⟩
  clear e0 e1 e2 e3 e4
  have hF4 : Fr w.heap.size w w4 := hF3.trans hf4
  have hG4 : Fr w2.heap.size w2 w4 := hG3.trans hf4
  clear hf4 hG3 hF3 k0 k1 k2 k3 k4 k5 k6 k7
  have hk : ∀ k, w4.cell? ⟨w.heap.size, k, none⟩ = #[.int .i64 2, .string ⟨#[]⟩, .slice none 0 0, .slice none 0 0, .bool false, .int .i64 0, .slice none 0 0, .slice (some ⟨b, off, none⟩) 3 c][k]? := fun k => (hG4.cell (p := ⟨w.heap.size, k, none⟩) (Nat.lt_trans hz1 (Nat.lt_of_succ_lt hz2))).trans (HKK.out k)
  have k0 := hk 0; have k1 := hk 1; have k2 := hk 2; have k3 := hk 3; have k4 := hk 4; have k5 := hk 5; have k6 := hk 6; have k7 := hk 7
  clear hk
  have t1 : w4.cell? ⟨w1.heap.size + 1, 2, none⟩ = some (.int .i64 1) := (hG4.cell (p := ⟨w1.heap.size + 1, 2, none⟩) hz2).trans r2
  go_wp2_with fail
  rw [rounds_succ]
  go_wp2_with fail
  obtain ⟨-, A2, ca2, -, e0, e1, e2, e3, e4⟩ := (H.out.keep (hF4.2.mono hB)).item (i := 2) rfl
  refine (Hn2.out A2 ca2 w4 (Nat.lt_of_lt_of_le hbB (Nat.le_trans hB hF4.2.size)) e0 e1 e2 e3 e4 (by omega)).mono ?_
  rintro e w5 ⟨rfl, hf5⟩
  clear e0 e1 e2 e3 e4
  have hF5 : Fr w.heap.size w w5 := hF4.trans hf5
  have hG5 : Fr w2.heap.size w2 w5 := hG4.trans hf5
  clear hf5 hF4 hG4 k0 k1 k2 k3 k4 k5 k6 k7
  have hk : ∀ k, w5.cell? ⟨w.heap.size, k, none⟩ = #[.int .i64 2, .string ⟨#[]⟩, .slice none 0 0, .slice none 0 0, .bool false, .int .i64 0, .slice none 0 0, .slice (some ⟨b, off, none⟩) 3 c][k]? := fun k => (hG5.cell (p := ⟨w.heap.size, k, none⟩) (Nat.lt_trans hz1 (Nat.lt_of_succ_lt hz2))).trans (HKK.out k)
  have k0 := hk 0; have k7 := hk 7
  clear hk
  go_wp2_with fail
  rw [rounds_succ]
  go_wp2_with fail
  go_ret2
  exact ⟨rfl, hF5⟩
end Go.Proofs.YtoelifebmhlokaaGreatDoor
