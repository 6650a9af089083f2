/- The numbers of the example's constraint. -/
import Derived.Test.YtoelifebmhlokaaGreatDoorSLimits
namespace Go.Proofs.YtoelifebmhlokaaGreatDoor
open Go.RowKit

set_option maxRecDepth 100000 in
theorem typeError_E {B : Nat} (b off c : Nat) (w : World) (h : LimAt B w (some ⟨b, off, none⟩) exE) (hB : B ≤ w.heap.size) (hp : PartTy w) :
    Calls Tryz.prog 26 #[.agg #[.int .i64 2, .string ⟨#[]⟩, .slice none 0 0, .slice none 0 0, .bool false, .int .i64 0, .slice none 0 0, .slice (some ⟨b, off, none⟩) 3 c]] w fun e w' => e = .returned (.int .i64 0) ∧ Fr w.heap.size w w' := by
  have hf := (Fr.self w).alloc (.cells #[.int .i64 2, .string ⟨#[]⟩, .slice none 0 0, .slice none 0 0, .bool false, .int .i64 0, .slice none 0 0, .slice (some ⟨b, off, none⟩) 3 c] 45)
  have Hc := Lib.hid (CheckLimits_E b off c (w.alloc (.cells #[.int .i64 2, .string ⟨#[]⟩, .slice none 0 0, .slice none 0 0, .bool false, .int .i64 0, .slice none 0 0, .slice (some ⟨b, off, none⟩) 3 c] 45)) (h.keep (hf.2.mono hB)) (Nat.le_trans hB hf.2.size) (hp.keep hf.2))
  clear h hp
  go_enter Tryz.func26, Tryz.ntmps26
  go_wp2_with fail
  refine (Hc.out).mono ?_
  rintro e w1 ⟨rfl, hf1⟩
  go_wp2_with fail
  go_ret
  exact ⟨rfl, hf.trans hf1⟩
/-- The numbers of a range. -/
theorem numbersOf_range (b off n ca i : Nat) (lo hi : Int) (A : Option Addr) (na cn : Nat) (w : World) (hi0 : i < n)
    (c0 : w.cell? ⟨b, off + i * 5, none⟩ = some (.int .i64 0)) (c1 : w.cell? ⟨b, off + i * 5 + 1, none⟩ = some (.int .i64 lo)) (c2 : w.cell? ⟨b, off + i * 5 + 2, none⟩ = some (.int .i64 hi)) (c3 : w.cell? ⟨b, off + i * 5 + 3, none⟩ = some (.string ⟨#[]⟩)) (c4 : w.cell? ⟨b, off + i * 5 + 4, none⟩ = some (.slice A na cn)) :
    Calls Tryz.prog 44 #[.slice (some ⟨b, off, none⟩) n ca, .int .i64 i] w fun e w' => ∃ g, e = .returned (.slice (some ⟨g, 0, none⟩) 1 1) ∧ w.heap.size ≤ g ∧ SpAt w'.heap.size w' (some ⟨g, 0, none⟩) [⟨lo, hi⟩] ∧ Fr w.heap.size w w' := by
  have hf := (Fr.self w).alloc (.cells #[.int .i64 0, .int .i64 lo, .int .i64 hi, .string ⟨#[]⟩, .slice A na cn] 65)
  have Hsp := Lib.hid (spanOf_any 0 lo hi ⟨#[]⟩ A na cn)
  have hi1 : (0 : Int) ≤ i := by omega
  have hi2 : (i : Int) < n := by omega
  go_enter Tryz.func44, Tryz.ntmps44
  go_wp2_with fail
  refine (Hsp.out _).mono ?_
  rintro e w1 ⟨rfl, hf1⟩
  clear c0 c1 c2 c3 c4
  go_wp2_with fail
  go_ret
  exact ⟨w1.heap.size, rfl, Nat.le_trans hf.2.size hf1.2.size, .inr ⟨w1.heap.size, 0, rfl, by simp, fun j u hu => by rw [Nat.zero_add, cell_new, ← Array.getElem?_toList]; exact hu⟩, (hf.trans hf1).alloc _⟩
/-- A constraint with a marker is open. -/
theorem isOpen_E {B : Nat} (b off c : Nat) (w : World) (h : LimAt B w (some ⟨b, off, none⟩) exE) :
    Calls Tryz.prog 29 #[.slice (some ⟨b, off, none⟩) 3 c] w fun e w' => e = .returned (.bool true) ∧ w = w' := by
  obtain ⟨-, A2, ca2, -, e0, e1, e2, e3, e4⟩ := h.item (i := 2) rfl
  clear h
  go_enter Tryz.func29, Tryz.ntmps29
  go_wp2_with fail
  go_ret
  exact ⟨rfl, rfl⟩
theorem rootOf_E {B : Nat} (b off c : Nat) (w : World) (h : LimAt B w (some ⟨b, off, none⟩) exE) (hc : 3 ≤ c) :
    Calls Tryz.prog 25 #[.slice (some ⟨b, off, none⟩) 3 c] w fun e w' => e = .returned (.slice (some ⟨b, off, none⟩) 1 c) ∧ w = w' := by
  obtain ⟨-, A2, ca2, hr, e0, e1, e2, e3, e4⟩ := h.item (i := 2) rfl
  have Ho := Lib.hid (isOpen_E b off c w h)
  obtain hh | ⟨a, o, rfl, -, ha⟩ := hr.args
  · simp at hh
  have a0 := ha 0 0 rfl
  rw [Nat.add_zero] at a0
  have hc3 : (1 : Int) ≤ c := by omega
  clear h hr ha
  go_enter Tryz.func25, Tryz.ntmps25
  go_wp2_with fail
  refine (Ho.out).mono ?_
  rintro e w' ⟨rfl, rfl⟩
  go_wp2_with fail
  go_ret
  exact ⟨rfl, rfl⟩
theorem exE_numbers : combineL 0 [⟨1, 5⟩] [⟨8, 8⟩] = [⟨1, 5⟩, ⟨8, 8⟩] := by decide
theorem numbersOf_0 {B : Nat} (b off n c : Nat) (w : World) (h : LimAt B w (some ⟨b, off, none⟩) exE) (hn : 0 < n) :
    Calls Tryz.prog 44 #[.slice (some ⟨b, off, none⟩) n c, .int .i64 0] w fun e w' => ∃ g, e = .returned (.slice (some ⟨g, 0, none⟩) 1 1) ∧ w.heap.size ≤ g ∧ SpAt w'.heap.size w' (some ⟨g, 0, none⟩) [⟨1, 5⟩] ∧ Fr w.heap.size w w' := by
  obtain ⟨-, A, ca, -, e0, e1, e2, e3, e4⟩ := h.item (i := 0) rfl
  exact numbersOf_range b off n c 0 1 5 A 0 ca w hn e0 e1 e2 e3 e4
theorem numbersOf_1 {B : Nat} (b off n c : Nat) (w : World) (h : LimAt B w (some ⟨b, off, none⟩) exE) (hn : 1 < n) :
    Calls Tryz.prog 44 #[.slice (some ⟨b, off, none⟩) n c, .int .i64 1] w fun e w' => ∃ g, e = .returned (.slice (some ⟨g, 0, none⟩) 1 1) ∧ w.heap.size ≤ g ∧ SpAt w'.heap.size w' (some ⟨g, 0, none⟩) [⟨8, 8⟩] ∧ Fr w.heap.size w w' := by
  obtain ⟨-, A, ca, -, e0, e1, e2, e3, e4⟩ := h.item (i := 1) rfl
  exact numbersOf_range b off n c 1 8 8 A 0 ca w hn e0 e1 e2 e3 e4
set_option maxRecDepth 100000 in
theorem numbersOf_E {B : Nat} (b off c : Nat) (w : World) (h : LimAt B w (some ⟨b, off, none⟩) exE) (hB : B ≤ w.heap.size) :
    Calls Tryz.prog 44 #[.slice (some ⟨b, off, none⟩) 3 c, .int .i64 2] w fun e w' => ∃ A cn, e = .returned (.slice A 2 cn) ∧ SpAt w'.heap.size w' A [⟨1, 5⟩, ⟨8, 8⟩] ∧ Fr w.heap.size w w' := by
  obtain ⟨-, A2, ca2, hr, e0, e1, e2, e3, e4⟩ := h.item (i := 2) rfl
  obtain hh | ⟨a, o, rfl, haB, ha⟩ := hr.args
  · simp at hh
  have a0 := ha 0 0 rfl
  have a1 := ha 1 1 rfl
  rw [Nat.add_zero] at a0
  have haw : a < w.heap.size := Nat.lt_of_lt_of_le haB hB
  have hf := (Fr.self w).alloc (.cells #[.int .i64 7, .int .i64 0, .int .i64 0, .string ⟨#[]⟩, .slice (some ⟨a, o, none⟩) 2 ca2] 65)
  have Hn0 := Lib.hid (fun w h => numbersOf_0 (B := B) b off 3 c w h (by omega))
  have Hn1 := Lib.hid (fun w h => numbersOf_1 (B := B) b off 3 c w h (by omega))
  have hop : operOf 7 = 0 := rfl
  have Hop := Lib.hid (fun w => hop ▸ operationOf_any 7 w)
  have H := Lib.hid h
  have Hk := Lib.hid (fun k => cell_new w #[.int .i64 7, .int .i64 0, .int .i64 0, .string ⟨#[]⟩, .slice (some ⟨a, o, none⟩) 2 ca2] 65 k)
  clear h hr ha hop
  go_enter Tryz.func44, Tryz.ntmps44
  go_wp2_with fail
  refine (Hn0.out _ (H.out.keep (hf.2.mono hB))).mono ?_
  rintro e w1 ⟨g1, rfl, hg1, hs1, hf1⟩
  have hF1 : Fr w.heap.size w w1 := hf.trans hf1
  have k0 : w1.cell? ⟨w.heap.size, 0, none⟩ = some (.int .i64 7) := (hf1.cell (p := ⟨w.heap.size, 0, none⟩) (by simp)).trans (Hk.out 0)
  have k4 : w1.cell? ⟨w.heap.size, 4, none⟩ = some (.slice (some ⟨a, o, none⟩) 2 ca2) := (hf1.cell (p := ⟨w.heap.size, 4, none⟩) (by simp)).trans (Hk.out 4)
  have a1' := (hF1.cell (p := ⟨a, o + 1, none⟩) haw).trans a1
  have hz1 : w.heap.size < w1.heap.size := cell_block k0
  clear e0 e1 e2 e3 e4 a0 a1 Hk hf hf1
  go_wp2_with fail
  refine (Hn1.out _ (H.out.keep (hF1.2.mono hB))).mono ?_
  rintro e w2 ⟨g2, rfl, hg2, hs2, hf2⟩
  have hF2 : Fr w.heap.size w w2 := hF1.trans hf2
  have k0' : w2.cell? ⟨w.heap.size, 0, none⟩ = some (.int .i64 7) := (hf2.cell (p := ⟨w.heap.size, 0, none⟩) hz1).trans k0
  have Hc := Lib.hid (combined_any (B := w2.heap.size) 0 [⟨1, 5⟩] [⟨8, 8⟩] (some ⟨g1, 0, none⟩) (some ⟨g2, 0, none⟩) 1 1 w2 ((hs1.keep hf2.2).mono hf2.2.size) hs2 (by simp) (by simp) (Nat.le_refl _) (by simp) (by simp) (by simp; decide) (by simp; decide))
  rw [exE_numbers] at Hc
  clear hs1 hs2 k0 k4 a1' hf2
  go_wp2_with (go_at_call 62; refine (Hop.out _).mono ?_; rintro e w' ⟨rfl, rfl⟩)
  refine (Hc.out).mono ?_
  rintro e w3 ⟨⟨v, rfl, hv⟩, hf3⟩
  obtain ⟨A, cn, rfl, -, hsp, -, -⟩ := SpAt.of hv
  go_wp2_with fail
  go_ret
  exact ⟨A, cn, rfl, hsp, hF2.trans hf3⟩
end Go.Proofs.YtoelifebmhlokaaGreatDoor
