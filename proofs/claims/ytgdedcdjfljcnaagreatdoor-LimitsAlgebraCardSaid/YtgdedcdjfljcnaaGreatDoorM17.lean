/- The numbers of the example's constraint. What the example's constraint permits. Values of the example's type; effective. -/
import Derived.Test.YtgdedcdjfljcnaaGreatDoorM15
import Derived.Test.YtgdedcdjfljcnaaGreatDoorM16
namespace Go.Proofs.YtgdedcdjfljcnaaGreatDoor
open Go.RowKit

set_option maxRecDepth 100000 in
theorem typeError_E {B : Nat} (b off c : Nat) (w : World) (h : LimAt B w (some ⟨b, off, none⟩) exE) (hB : B ≤ w.heap.size) (hp : PartTy w) :
    Calls Tryz.prog 24 #[.agg #[.int .i64 2, .string ⟨#[]⟩, .slice none 0 0, .slice none 0 0, .bool false, .int .i64 0, .slice none 0 0, .slice (some ⟨b, off, none⟩) 3 c]] w fun e w' => e = .returned (.int .i64 0) ∧ Fr w.heap.size w w' := by
  have hf := (Fr.self w).alloc (.cells #[.int .i64 2, .string ⟨#[]⟩, .slice none 0 0, .slice none 0 0, .bool false, .int .i64 0, .slice none 0 0, .slice (some ⟨b, off, none⟩) 3 c] 28)
  have Hc := Lib.hid (CheckLimits_E b off c (w.alloc (.cells #[.int .i64 2, .string ⟨#[]⟩, .slice none 0 0, .slice none 0 0, .bool false, .int .i64 0, .slice none 0 0, .slice (some ⟨b, off, none⟩) 3 c] 28)) (h.keep (hf.2.mono hB)) (Nat.le_trans hB hf.2.size) (hp.keep hf.2))
  clear h hp
  go_enter Tryz.func24, Tryz.ntmps24
  go_wp2_with fail
  refine (Hc.out).mono ?_
  rintro e w1 ⟨rfl, hf1⟩
  go_wp2_with fail
  go_ret
  exact ⟨rfl, hf.trans hf1⟩
/-- The numbers of a range. -/
theorem numbersOf_range (b off n ca i : Nat) (lo hi : Int) (A : Option Addr) (na cn : Nat) (w : World) (hi0 : i < n)
    (c0 : w.cell? ⟨b, off + i * 5, none⟩ = some (.int .i64 0)) (c1 : w.cell? ⟨b, off + i * 5 + 1, none⟩ = some (.int .i64 lo)) (c2 : w.cell? ⟨b, off + i * 5 + 2, none⟩ = some (.int .i64 hi)) (c3 : w.cell? ⟨b, off + i * 5 + 3, none⟩ = some (.string ⟨#[]⟩)) (c4 : w.cell? ⟨b, off + i * 5 + 4, none⟩ = some (.slice A na cn)) :
    Calls Tryz.prog 45 #[.slice (some ⟨b, off, none⟩) n ca, .int .i64 i] w fun e w' => ∃ g, e = .returned (.slice (some ⟨g, 0, none⟩) 1 1) ∧ w.heap.size ≤ g ∧ SpAt w'.heap.size w' (some ⟨g, 0, none⟩) [⟨lo, hi⟩] ∧ Fr w.heap.size w w' := by
  have hf := (Fr.self w).alloc (.cells #[.int .i64 0, .int .i64 lo, .int .i64 hi, .string ⟨#[]⟩, .slice A na cn] 66)
  have Hsp := Lib.hid (spanOf_any 0 lo hi ⟨#[]⟩ A na cn)
  have hi1 : (0 : Int) ≤ i := by omega
  have hi2 : (i : Int) < n := by omega
  go_enter Tryz.func45, Tryz.ntmps45
  go_wp2_with fail
  refine (Hsp.out _).mono ?_
  rintro e w1 ⟨rfl, hf1⟩
  clear c0 c1 c2 c3 c4
  go_wp2_with fail
  go_ret
  exact ⟨w1.heap.size, rfl, Nat.le_trans hf.2.size hf1.2.size, .inr ⟨w1.heap.size, 0, rfl, by simp, fun j u hu => by rw [Nat.zero_add, cell_new, ← Array.getElem?_toList]; exact hu⟩, (hf.trans hf1).alloc _⟩
/-- A constraint with a marker is open. -/
theorem isOpen_E {B : Nat} (b off c : Nat) (w : World) (h : LimAt B w (some ⟨b, off, none⟩) exE) :
    Calls Tryz.prog 37 #[.slice (some ⟨b, off, none⟩) 3 c] w fun e w' => e = .returned (.bool true) ∧ w = w' := by
  obtain ⟨-, A2, ca2, -, e0, e1, e2, e3, e4⟩ := h.item (i := 2) rfl
  clear h
  go_enter Tryz.func37, Tryz.ntmps37
  go_wp2_with fail
  go_ret
  exact ⟨rfl, rfl⟩
theorem rootOf_E {B : Nat} (b off c : Nat) (w : World) (h : LimAt B w (some ⟨b, off, none⟩) exE) (hc : 3 ≤ c) :
    Calls Tryz.prog 35 #[.slice (some ⟨b, off, none⟩) 3 c] w fun e w' => e = .returned (.slice (some ⟨b, off, none⟩) 1 c) ∧ w = w' := by
  obtain ⟨-, A2, ca2, hr, e0, e1, e2, e3, e4⟩ := h.item (i := 2) rfl
  have Ho := Lib.hid (isOpen_E b off c w h)
  obtain hh | ⟨a, o, rfl, -, ha⟩ := hr.args
  · simp at hh
  have a0 := ha 0 0 rfl
  rw [Nat.add_zero] at a0
  have hc3 : (1 : Int) ≤ c := by omega
  clear h hr ha
  go_enter Tryz.func35, Tryz.ntmps35
  go_wp2_with fail
  refine (Ho.out).mono ?_
  rintro e w' ⟨rfl, rfl⟩
  go_wp2_with fail
  go_ret
  exact ⟨rfl, rfl⟩
theorem exE_numbers : combineL 0 [⟨1, 5⟩] [⟨8, 8⟩] = [⟨1, 5⟩, ⟨8, 8⟩] := by decide
theorem numbersOf_0 {B : Nat} (b off n c : Nat) (w : World) (h : LimAt B w (some ⟨b, off, none⟩) exE) (hn : 0 < n) :
    Calls Tryz.prog 45 #[.slice (some ⟨b, off, none⟩) n c, .int .i64 0] w fun e w' => ∃ g, e = .returned (.slice (some ⟨g, 0, none⟩) 1 1) ∧ w.heap.size ≤ g ∧ SpAt w'.heap.size w' (some ⟨g, 0, none⟩) [⟨1, 5⟩] ∧ Fr w.heap.size w w' := by
  obtain ⟨-, A, ca, -, e0, e1, e2, e3, e4⟩ := h.item (i := 0) rfl
  exact numbersOf_range b off n c 0 1 5 A 0 ca w hn e0 e1 e2 e3 e4
theorem numbersOf_1 {B : Nat} (b off n c : Nat) (w : World) (h : LimAt B w (some ⟨b, off, none⟩) exE) (hn : 1 < n) :
    Calls Tryz.prog 45 #[.slice (some ⟨b, off, none⟩) n c, .int .i64 1] w fun e w' => ∃ g, e = .returned (.slice (some ⟨g, 0, none⟩) 1 1) ∧ w.heap.size ≤ g ∧ SpAt w'.heap.size w' (some ⟨g, 0, none⟩) [⟨8, 8⟩] ∧ Fr w.heap.size w w' := by
  obtain ⟨-, A, ca, -, e0, e1, e2, e3, e4⟩ := h.item (i := 1) rfl
  exact numbersOf_range b off n c 1 8 8 A 0 ca w hn e0 e1 e2 e3 e4
set_option maxRecDepth 100000 in
theorem numbersOf_E {B : Nat} (b off c : Nat) (w : World) (h : LimAt B w (some ⟨b, off, none⟩) exE) (hB : B ≤ w.heap.size) :
    Calls Tryz.prog 45 #[.slice (some ⟨b, off, none⟩) 3 c, .int .i64 2] w fun e w' => ∃ A cn, e = .returned (.slice A 2 cn) ∧ SpAt w'.heap.size w' A [⟨1, 5⟩, ⟨8, 8⟩] ∧ Fr w.heap.size w w' := by
  obtain ⟨-, A2, ca2, hr, e0, e1, e2, e3, e4⟩ := h.item (i := 2) rfl
  obtain hh | ⟨a, o, rfl, haB, ha⟩ := hr.args
  · simp at hh
  have a0 := ha 0 0 rfl
  have a1 := ha 1 1 rfl
  rw [Nat.add_zero] at a0
  have haw : a < w.heap.size := Nat.lt_of_lt_of_le haB hB
  have hf := (Fr.self w).alloc (.cells #[.int .i64 7, .int .i64 0, .int .i64 0, .string ⟨#[]⟩, .slice (some ⟨a, o, none⟩) 2 ca2] 66)
  have Hn0 := Lib.hid (fun w h => numbersOf_0 (B := B) b off 3 c w h (by omega))
  have Hn1 := Lib.hid (fun w h => numbersOf_1 (B := B) b off 3 c w h (by omega))
  have hop : operOf 7 = 0 := rfl
  have Hop := Lib.hid (fun w => hop ▸ operationOf_any 7 w)
  have H := Lib.hid h
  have Hk := Lib.hid (fun k => cell_new w #[.int .i64 7, .int .i64 0, .int .i64 0, .string ⟨#[]⟩, .slice (some ⟨a, o, none⟩) 2 ca2] 66 k)
  clear h hr ha hop
  go_enter Tryz.func45, Tryz.ntmps45
  go_wp2_with fail
  refine (Hn0.out _ (H.out.keep (hf.2.mono hB))).mono ?_
  rintro e w1 ⟨g1, rfl, hg1, hs1, hf1⟩
  have hF1 : Fr w.heap.size w w1 := hf.trans hf1
  have k0 : w1.cell? ⟨w.heap.size, 0, none⟩ = some (.int .i64 7) := (hf1.cell (p := ⟨w.heap.size, 0, none⟩) (by simp)).trans (Hk.out 0)
  have k4 : w1.cell? ⟨w.heap.size, 4, none⟩ = some (.slice (some ⟨a, o, none⟩) 2 ca2) := (hf1.cell (p := ⟨w.heap.size, 4, none⟩) (by simp)).trans (Hk.out 4)
  have a1' := (hF1.cell (p := ⟨a, o + 1, none⟩) haw).trans a1
  have hz1 : w.heap.size < w1.heap.size := cell_block k0
  clear e0 e1 e2 e3 e4 a0 a1 Hk hf hf1
  go_wp2_with fail
  refine (Hn1.out _ (H.out.keep (hF1.2.mono hB))).mono ?_
  rintro e w2 ⟨g2, rfl, hg2, hs2, hf2⟩
  have hF2 : Fr w.heap.size w w2 := hF1.trans hf2
  have k0' : w2.cell? ⟨w.heap.size, 0, none⟩ = some (.int .i64 7) := (hf2.cell (p := ⟨w.heap.size, 0, none⟩) hz1).trans k0
  have Hc := Lib.hid (combined_any (B := w2.heap.size) 0 [⟨1, 5⟩] [⟨8, 8⟩] (some ⟨g1, 0, none⟩) (some ⟨g2, 0, none⟩) 1 1 w2 ((hs1.keep hf2.2).mono hf2.2.size) hs2 (by simp) (by simp) (Nat.le_refl _) (by simp) (by simp) (by simp; decide) (by simp; decide))
  rw [exE_numbers] at Hc
  clear hs1 hs2 k0 k4 a1' hf2
  go_wp2_with (go_at_call 77; refine (Hop.out _).mono ?_; rintro e w' ⟨rfl, rfl⟩)
  refine (Hc.out).mono ?_
  rintro e w3 ⟨⟨v, rfl, hv⟩, hf3⟩
  obtain ⟨A, cn, rfl, -, hsp, -, -⟩ := SpAt.of hv
  go_wp2_with fail
  go_ret
  exact ⟨A, cn, rfl, hsp, hF2.trans hf3⟩
end Go.Proofs.YtgdedcdjfljcnaaGreatDoor
namespace Go.Proofs.YtgdedcdjfljcnaaGreatDoor
open Go.RowKit

set_option maxRecDepth 100000 in
theorem permitted_E {B : Nat} (b off c : Nat) (w : World) (h : LimAt B w (some ⟨b, off, none⟩) exE) (hB : B ≤ w.heap.size) :
    Calls Tryz.prog 26 #[.agg #[.int .i64 2, .string ⟨#[]⟩, .slice none 0 0, .slice none 0 0, .bool false, .int .i64 0, .slice none 0 0, .slice (some ⟨b, off, none⟩) 3 c]] w fun e w' => ∃ A cn, e = .returned (.slice A [(⟨1, 5⟩ : Sp), ⟨8, 8⟩].length cn) ∧ SpAt w'.heap.size w' A [⟨1, 5⟩, ⟨8, 8⟩] ∧ Fr w.heap.size w w' := by
  have hf := (Fr.self w).alloc (.cells #[.int .i64 2, .string ⟨#[]⟩, .slice none 0 0, .slice none 0 0, .bool false, .int .i64 0, .slice none 0 0, .slice (some ⟨b, off, none⟩) 3 c] 28)
  have Hn := Lib.hid (numbersOf_E b off c (w.alloc (.cells #[.int .i64 2, .string ⟨#[]⟩, .slice none 0 0, .slice none 0 0, .bool false, .int .i64 0, .slice none 0 0, .slice (some ⟨b, off, none⟩) 3 c] 28)) (h.keep (hf.2.mono hB)) (Nat.le_trans hB hf.2.size))
  clear h
  go_enter Tryz.func26, Tryz.ntmps26
  go_wp2_with fail
  refine (Hn.out).mono ?_
  rintro e w1 ⟨A, cn, rfl, hsp, hf1⟩
  go_wp2_with fail
  go_ret
  exact ⟨A, cn, rfl, hsp, hf.trans hf1⟩
set_option maxRecDepth 100000 in
theorem permitted_R {B : Nat} (b off c : Nat) (w : World) (h : LimAt B w (some ⟨b, off, none⟩) exE) (hB : B ≤ w.heap.size) :
    Calls Tryz.prog 26 #[.agg #[.int .i64 2, .string ⟨#[]⟩, .slice none 0 0, .slice none 0 0, .bool false, .int .i64 0, .slice none 0 0, .slice (some ⟨b, off, none⟩) 1 c]] w fun e w' => ∃ A cn, e = .returned (.slice A [(⟨1, 5⟩ : Sp)].length cn) ∧ SpAt w'.heap.size w' A [⟨1, 5⟩] ∧ Fr w.heap.size w w' := by
  have hf := (Fr.self w).alloc (.cells #[.int .i64 2, .string ⟨#[]⟩, .slice none 0 0, .slice none 0 0, .bool false, .int .i64 0, .slice none 0 0, .slice (some ⟨b, off, none⟩) 1 c] 28)
  have Hn := Lib.hid (numbersOf_0 b off 1 c (w.alloc (.cells #[.int .i64 2, .string ⟨#[]⟩, .slice none 0 0, .slice none 0 0, .bool false, .int .i64 0, .slice none 0 0, .slice (some ⟨b, off, none⟩) 1 c] 28)) (h.keep (hf.2.mono hB)) (by omega))
  clear h
  go_enter Tryz.func26, Tryz.ntmps26
  go_wp2_with fail
  refine (Hn.out).mono ?_
  rintro e w1 ⟨g, rfl, -, hsp, hf1⟩
  go_wp2_with fail
  go_ret
  exact ⟨some ⟨g, 0, none⟩, 1, rfl, hsp, hf.trans hf1⟩
set_option maxRecDepth 100000 in
set_option maxHeartbeats 2000000 in
theorem isPermitted_of (V : Value) (sp : List Sp) (v : Int) (w : World) (hsl : sp.length ≤ 1000)
    (hP : ∀ w', Fr w.heap.size w w' → Calls Tryz.prog 26 #[.agg #[.int .i64 2, .string ⟨#[]⟩, .slice none 0 0, .slice none 0 0, .bool false, .int .i64 0, .slice none 0 0, V]] w' fun e w2 => ∃ A cn, e = .returned (.slice A sp.length cn) ∧ SpAt w2.heap.size w2 A sp ∧ Fr w'.heap.size w' w2) :
    Calls Tryz.prog 31 #[.agg #[.int .i64 2, .string ⟨#[]⟩, .slice none 0 0, .slice none 0 0, .bool false, .int .i64 0, .slice none 0 0, V], .agg #[.int .i64 2, .int .i64 v, .int .i64 0, .string ⟨#[]⟩, .slice none 0 0, .slice none 0 0]] w fun e w' => e = .returned (.bool (inB sp v)) ∧ Fr w.heap.size w w' := by
  have hf := ((Fr.self w).alloc (.cells #[.int .i64 2, .string ⟨#[]⟩, .slice none 0 0, .slice none 0 0, .bool false, .int .i64 0, .slice none 0 0, V] 28)).alloc (.cells #[.int .i64 2, .int .i64 v, .int .i64 0, .string ⟨#[]⟩, .slice none 0 0, .slice none 0 0] 44)
  have hq : ∀ k, ((w.alloc (.cells #[.int .i64 2, .string ⟨#[]⟩, .slice none 0 0, .slice none 0 0, .bool false, .int .i64 0, .slice none 0 0, V] 28)).alloc (.cells #[.int .i64 2, .int .i64 v, .int .i64 0, .string ⟨#[]⟩, .slice none 0 0, .slice none 0 0] 44)).cell? ⟨w.heap.size, k, none⟩ = #[.int .i64 2, .string ⟨#[]⟩, .slice none 0 0, .slice none 0 0, .bool false, .int .i64 0, .slice none 0 0, V][k]? := fun k => (World.cell?_alloc_lt _ _ _ (by simp)).trans (cell_new w _ _ k)
  have hv : ((w.alloc (.cells #[.int .i64 2, .string ⟨#[]⟩, .slice none 0 0, .slice none 0 0, .bool false, .int .i64 0, .slice none 0 0, V] 28)).alloc (.cells #[.int .i64 2, .int .i64 v, .int .i64 0, .string ⟨#[]⟩, .slice none 0 0, .slice none 0 0] 44)).cell? ⟨w.heap.size + 1, 1, none⟩ = some (.int .i64 v) := by
    have := cell_new (w.alloc (.cells #[.int .i64 2, .string ⟨#[]⟩, .slice none 0 0, .slice none 0 0, .bool false, .int .i64 0, .slice none 0 0, V] 28)) #[.int .i64 2, .int .i64 v, .int .i64 0, .string ⟨#[]⟩, .slice none 0 0, .slice none 0 0] 44 1
    rwa [World.size_alloc] at this
  have HP := Lib.hid hP
  have Hh := Lib.hid (fun (A : Option Addr) (cn : Nat) w (h : SpAt w.heap.size w A sp) => has_any (B := w.heap.size) sp v A cn w h (Nat.le_refl _) (by omega))
  clear hP
  go_enter Tryz.func31, Tryz.ntmps31
  go_wp2_with fail
  have hqz : w.heap.size + 1 < ((w.alloc (.cells #[.int .i64 2, .string ⟨#[]⟩, .slice none 0 0, .slice none 0 0, .bool false, .int .i64 0, .slice none 0 0, V] 28)).alloc (.cells #[.int .i64 2, .int .i64 v, .int .i64 0, .string ⟨#[]⟩, .slice none 0 0, .slice none 0 0] 44)).heap.size := by simp
  generalize (w.alloc (.cells #[.int .i64 2, .string ⟨#[]⟩, .slice none 0 0, .slice none 0 0, .bool false, .int .i64 0, .slice none 0 0, V] 28)).alloc (.cells #[.int .i64 2, .int .i64 v, .int .i64 0, .string ⟨#[]⟩, .slice none 0 0, .slice none 0 0] 44) = W at *
  have q0 := hq 0; have q1 := hq 1; have q2 := hq 2; have q3 := hq 3; have q4 := hq 4; have q5 := hq 5; have q6 := hq 6; have q7 := hq 7
  clear hq
  go_region_held3 (fun w' => Fr w.heap.size w w' ∧ w.heap.size + 1 < w'.heap.size ∧ w'.cell? ⟨w.heap.size + 1, 1, none⟩ = some (.int .i64 v) ∧ w'.cell? ⟨w.heap.size, 0, none⟩ = some (.int .i64 2) ∧ w'.cell? ⟨w.heap.size, 1, none⟩ = some (.string ⟨#[]⟩) ∧ w'.cell? ⟨w.heap.size, 2, none⟩ = some (.slice none 0 0) ∧ w'.cell? ⟨w.heap.size, 3, none⟩ = some (.slice none 0 0) ∧ w'.cell? ⟨w.heap.size, 4, none⟩ = some (.bool false) ∧ w'.cell? ⟨w.heap.size, 5, none⟩ = some (.int .i64 0) ∧ w'.cell? ⟨w.heap.size, 6, none⟩ = some (.slice none 0 0) ∧ w'.cell? ⟨w.heap.size, 7, none⟩ = some V)
    (first
      | (go_split_ands; exact ⟨Fr.trans (by assumption) hf5, Nat.lt_of_lt_of_le (by assumption) hf5.2.size, (hf5.cell (p := ⟨w.heap.size + 1, 1, none⟩) (by first | assumption | exact Nat.lt_of_succ_lt (by assumption))).trans (by assumption), (hf5.cell (p := ⟨w.heap.size, 0, none⟩) (by first | assumption | exact Nat.lt_of_succ_lt (by assumption))).trans (by assumption), (hf5.cell (p := ⟨w.heap.size, 1, none⟩) (by first | assumption | exact Nat.lt_of_succ_lt (by assumption))).trans (by assumption), (hf5.cell (p := ⟨w.heap.size, 2, none⟩) (by first | assumption | exact Nat.lt_of_succ_lt (by assumption))).trans (by assumption), (hf5.cell (p := ⟨w.heap.size, 3, none⟩) (by first | assumption | exact Nat.lt_of_succ_lt (by assumption))).trans (by assumption), (hf5.cell (p := ⟨w.heap.size, 4, none⟩) (by first | assumption | exact Nat.lt_of_succ_lt (by assumption))).trans (by assumption), (hf5.cell (p := ⟨w.heap.size, 5, none⟩) (by first | assumption | exact Nat.lt_of_succ_lt (by assumption))).trans (by assumption), (hf5.cell (p := ⟨w.heap.size, 6, none⟩) (by first | assumption | exact Nat.lt_of_succ_lt (by assumption))).trans (by assumption), (hf5.cell (p := ⟨w.heap.size, 7, none⟩) (by first | assumption | exact Nat.lt_of_succ_lt (by assumption))).trans (by assumption)⟩)
      | (go_split_ands; exact ⟨Fr.trans (by assumption) hf6, Nat.lt_of_lt_of_le (by assumption) hf6.2.size, (hf6.cell (p := ⟨w.heap.size + 1, 1, none⟩) (by first | assumption | exact Nat.lt_of_succ_lt (by assumption))).trans (by assumption), (hf6.cell (p := ⟨w.heap.size, 0, none⟩) (by first | assumption | exact Nat.lt_of_succ_lt (by assumption))).trans (by assumption), (hf6.cell (p := ⟨w.heap.size, 1, none⟩) (by first | assumption | exact Nat.lt_of_succ_lt (by assumption))).trans (by assumption), (hf6.cell (p := ⟨w.heap.size, 2, none⟩) (by first | assumption | exact Nat.lt_of_succ_lt (by assumption))).trans (by assumption), (hf6.cell (p := ⟨w.heap.size, 3, none⟩) (by first | assumption | exact Nat.lt_of_succ_lt (by assumption))).trans (by assumption), (hf6.cell (p := ⟨w.heap.size, 4, none⟩) (by first | assumption | exact Nat.lt_of_succ_lt (by assumption))).trans (by assumption), (hf6.cell (p := ⟨w.heap.size, 5, none⟩) (by first | assumption | exact Nat.lt_of_succ_lt (by assumption))).trans (by assumption), (hf6.cell (p := ⟨w.heap.size, 6, none⟩) (by first | assumption | exact Nat.lt_of_succ_lt (by assumption))).trans (by assumption), (hf6.cell (p := ⟨w.heap.size, 7, none⟩) (by first | assumption | exact Nat.lt_of_succ_lt (by assumption))).trans (by assumption)⟩)
      | (go_split_ands; exact ⟨hf.drew, hqz, hv, q0, q1, q2, q3, q4, q5, q6, q7⟩)
      | go_keep)
    (first
      | (go_at_call 26; refine (HP.out _ (by go_split_ands; assumption)).mono ?_; rintro e w5 ⟨A, cn, rfl, hsp, hf5⟩)
      | (go_at_call 53; refine (Hh.out _ _ _ hsp).mono ?_; rintro e w6 ⟨rfl, hf6⟩))
  all_goals
    rename_i hHeld
    have hF := hHeld.1
    clear hHeld
    go_wp2_with fail
    go_ret
    exact ⟨rfl, hF⟩
end Go.Proofs.YtgdedcdjfljcnaaGreatDoor
namespace Go.Proofs.YtgdedcdjfljcnaaGreatDoor
open Go.RowKit

/-- What the program's table says of the values of whole numbers. -/
def PartVal (w : World) : Prop := w.cell? ⟨0, 2, none⟩ = some (.int .i64 2)
theorem PartVal.keep {w w' : World} (h : PartVal w) (hf : Below w.heap.size w w') : PartVal w' := (hf.cell (p := ⟨_, 2, none⟩) (cell_block h)).trans h
set_option maxRecDepth 100000 in
set_option maxHeartbeats 2000000 in
theorem valueError_E {B : Nat} (b off c : Nat) (v : Int) (w : World) (h : LimAt B w (some ⟨b, off, none⟩) exE) (hB : B ≤ w.heap.size) (hp : PartTy w) (hi : PartInt w) (hv : PartVal w) (hn : -1152921504606846976 ≤ v ∧ v ≤ 1152921504606846976) :
    Calls Tryz.prog 30 #[.agg #[.int .i64 2, .string ⟨#[]⟩, .slice none 0 0, .slice none 0 0, .bool false, .int .i64 0, .slice none 0 0, .slice (some ⟨b, off, none⟩) 3 c], .agg #[.int .i64 2, .int .i64 v, .int .i64 0, .string ⟨#[]⟩, .slice none 0 0, .slice none 0 0]] w fun e w' => e = .returned (.int .i64 0) ∧ Fr w.heap.size w w' := by
  have hf := ((Fr.self w).alloc (.cells #[.int .i64 2, .string ⟨#[]⟩, .slice none 0 0, .slice none 0 0, .bool false, .int .i64 0, .slice none 0 0, .slice (some ⟨b, off, none⟩) 3 c] 28)).alloc (.cells #[.int .i64 2, .int .i64 v, .int .i64 0, .string ⟨#[]⟩, .slice none 0 0, .slice none 0 0] 44)
  have hq : ∀ k, ((w.alloc (.cells #[.int .i64 2, .string ⟨#[]⟩, .slice none 0 0, .slice none 0 0, .bool false, .int .i64 0, .slice none 0 0, .slice (some ⟨b, off, none⟩) 3 c] 28)).alloc (.cells #[.int .i64 2, .int .i64 v, .int .i64 0, .string ⟨#[]⟩, .slice none 0 0, .slice none 0 0] 44)).cell? ⟨w.heap.size, k, none⟩ = #[.int .i64 2, .string ⟨#[]⟩, .slice none 0 0, .slice none 0 0, .bool false, .int .i64 0, .slice none 0 0, .slice (some ⟨b, off, none⟩) 3 c][k]? := fun k => (World.cell?_alloc_lt _ _ _ (by simp)).trans (cell_new w _ _ k)
  have hr : ∀ k, ((w.alloc (.cells #[.int .i64 2, .string ⟨#[]⟩, .slice none 0 0, .slice none 0 0, .bool false, .int .i64 0, .slice none 0 0, .slice (some ⟨b, off, none⟩) 3 c] 28)).alloc (.cells #[.int .i64 2, .int .i64 v, .int .i64 0, .string ⟨#[]⟩, .slice none 0 0, .slice none 0 0] 44)).cell? ⟨w.heap.size + 1, k, none⟩ = #[.int .i64 2, .int .i64 v, .int .i64 0, .string ⟨#[]⟩, .slice none 0 0, .slice none 0 0][k]? := fun k => by
    have := cell_new (w.alloc (.cells #[.int .i64 2, .string ⟨#[]⟩, .slice none 0 0, .slice none 0 0, .bool false, .int .i64 0, .slice none 0 0, .slice (some ⟨b, off, none⟩) 3 c] 28)) #[.int .i64 2, .int .i64 v, .int .i64 0, .string ⟨#[]⟩, .slice none 0 0, .slice none 0 0] 44 k
    rwa [World.size_alloc] at this
  have hqz : w.heap.size + 1 < ((w.alloc (.cells #[.int .i64 2, .string ⟨#[]⟩, .slice none 0 0, .slice none 0 0, .bool false, .int .i64 0, .slice none 0 0, .slice (some ⟨b, off, none⟩) 3 c] 28)).alloc (.cells #[.int .i64 2, .int .i64 v, .int .i64 0, .string ⟨#[]⟩, .slice none 0 0, .slice none 0 0] 44)).heap.size := by simp
  have Ht := Lib.hid (fun w h hB hp => typeError_E (B := B) b off c w h hB hp)
  have Hf := Lib.hid (fun w hp => iv_form v hn w hp)
  have H := Lib.hid h; have Hp := Lib.hid hp; have Hi := Lib.hid hi; have Hv := Lib.hid hv
  clear h hp hi hv hn
  go_enter Tryz.func30, Tryz.ntmps30
  go_wp2_with fail
  generalize (w.alloc (.cells #[.int .i64 2, .string ⟨#[]⟩, .slice none 0 0, .slice none 0 0, .bool false, .int .i64 0, .slice none 0 0, .slice (some ⟨b, off, none⟩) 3 c] 28)).alloc (.cells #[.int .i64 2, .int .i64 v, .int .i64 0, .string ⟨#[]⟩, .slice none 0 0, .slice none 0 0] 44) = W at *
  refine (Ht.out _ (H.out.keep (hf.2.mono hB)) (Nat.le_trans hB hf.2.size) (Hp.out.keep hf.2)).mono ?_
  rintro e w1 ⟨rfl, hf1⟩
  have hF1 : Fr w.heap.size w w1 := hf.trans hf1
  have hrr : ∀ k, w1.cell? ⟨w.heap.size + 1, k, none⟩ = #[.int .i64 2, .int .i64 v, .int .i64 0, .string ⟨#[]⟩, .slice none 0 0, .slice none 0 0][k]? := fun k => (hf1.cell (p := ⟨w.heap.size + 1, k, none⟩) hqz).trans (hr k)
  have hq0 := (hf1.cell (p := ⟨w.heap.size, 0, none⟩) (Nat.lt_of_succ_lt hqz)).trans (hq 0)
  have r0 := hrr 0; have r1 := hrr 1; have r2 := hrr 2; have r3 := hrr 3; have r4 := hrr 4; have r5 := hrr 5
  have hz1 : w.heap.size + 1 < w1.heap.size := cell_block r0
  clear hq hr hrr hf hf1 hqz
  go_wp2_with fail
  refine (Hf.out _ (Hi.out.keep hF1.2)).mono ?_
  rintro e w2 ⟨rfl, hf2⟩
  have hF2 : Fr w.heap.size w w2 := hF1.trans hf2
  have hv2 : w2.cell? ⟨0, 2, none⟩ = some (.int .i64 2) := Hv.out.keep hF2.2
  have r0' := (hf2.cell (p := ⟨w.heap.size + 1, 0, none⟩) hz1).trans r0
  have q0' := (hf2.cell (p := ⟨w.heap.size, 0, none⟩) (Nat.lt_of_succ_lt hz1)).trans hq0
  clear r0 r1 r2 r3 r4 r5 hq0 hf2 hF1
  go_wp2_with fail
  go_quiet (fail)
  go_wp2_with fail
  go_ret
  exact ⟨rfl, hF2.drewN _⟩
theorem effective_one (lo hi : Int) (A : Option Addr) (cn : Nat) (w : World) (h : SpAt w.heap.size w A [⟨lo, hi⟩]) :
    Calls Tryz.prog 36 #[.slice A 1 cn, .bool true] w fun e w' => e = .returned (.tuple #[.agg #[.int .i64 lo, .int .i64 hi], .bool true, .int .i64 0]) ∧ Fr w.heap.size w w' := by
  obtain hh | ⟨g, o, rfl, hg, hc⟩ := h
  · simp at hh
  have c0 := hc 0 _ rfl
  have c1 := hc 1 _ rfl
  rw [Nat.add_zero] at c0
  have hf := (Fr.self w).alloc (.cells #[.int .i64 0, .int .i64 0] 55)
  clear hc
  go_enter Tryz.func36, Tryz.ntmps36
  go_wp2_with fail
  have k0 := cell_new w #[.int .i64 0, .int .i64 0] 55 0
  have k1 := cell_new w #[.int .i64 0, .int .i64 0] 55 1
  have z0 := frozen_new w #[.int .i64 0, .int .i64 0] 55 0
  have z1 := frozen_new w #[.int .i64 0, .int .i64 0] 55 1
  replace c0 := (World.cell?_alloc_lt w (.cells #[.int .i64 0, .int .i64 0] 55) ⟨g, o, none⟩ hg).trans c0
  replace c1 := (World.cell?_alloc_lt w (.cells #[.int .i64 0, .int .i64 0] 55) ⟨g, o + 1, none⟩ hg).trans c1
  generalize w.alloc (.cells #[.int .i64 0, .int .i64 0] 55) = W at *
  have hne : w.heap.size ≠ g := by omega
  go_region
  all_goals
    go_wp2_with fail
    exact bodyPost_ret (v := .tuple #[.agg #[.int .i64 lo, .int .i64 hi], .bool true, .int .i64 0]) (by simp [results, Tryz.results36, go_sem, *]) rfl ⟨rfl, (hf.drew.setCell (Nat.le_refl _) _).setCell (Nat.le_refl _) _⟩
end Go.Proofs.YtgdedcdjfljcnaaGreatDoor
