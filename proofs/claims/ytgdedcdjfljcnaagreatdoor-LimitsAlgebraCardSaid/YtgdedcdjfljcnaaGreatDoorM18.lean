/- The example: Permits, InRoot, RangeOf. The chapter's example: awake. The numbers of a constraint of whole numbers, whatever the tree: numbersOf. -/
import Derived.Test.YtgdedcdjfljcnaaGreatDoorM17
import Derived.Test.YtgdedcdjfljcnaaGreatDoorM15
namespace Go.Proofs.YtgdedcdjfljcnaaGreatDoor
open Go.RowKit

set_option maxRecDepth 100000 in
set_option maxHeartbeats 2000000 in
theorem Permits_E {B : Nat} (b off c : Nat) (w : World) (h : LimAt B w (some ⟨b, off, none⟩) exE) (hB : B ≤ w.heap.size) (hp : PartTy w) (hi : PartInt w) (hv : PartVal w) :
    Calls Tryz.prog 11 #[.agg #[.int .i64 2, .string ⟨#[]⟩, .slice none 0 0, .slice none 0 0, .bool false, .int .i64 0, .slice none 0 0, .slice (some ⟨b, off, none⟩) 3 c], .agg #[.int .i64 2, .int .i64 8, .int .i64 0, .string ⟨#[]⟩, .slice none 0 0, .slice none 0 0]] w fun e w' => e = .returned (.tuple #[.bool true, .int .i64 0]) ∧ Fr w.heap.size w w' := by
  have hf := ((Fr.self w).alloc (.cells #[.int .i64 2, .string ⟨#[]⟩, .slice none 0 0, .slice none 0 0, .bool false, .int .i64 0, .slice none 0 0, .slice (some ⟨b, off, none⟩) 3 c] 28)).alloc (.cells #[.int .i64 2, .int .i64 8, .int .i64 0, .string ⟨#[]⟩, .slice none 0 0, .slice none 0 0] 44)
  have hq : ∀ k, ((w.alloc (.cells #[.int .i64 2, .string ⟨#[]⟩, .slice none 0 0, .slice none 0 0, .bool false, .int .i64 0, .slice none 0 0, .slice (some ⟨b, off, none⟩) 3 c] 28)).alloc (.cells #[.int .i64 2, .int .i64 8, .int .i64 0, .string ⟨#[]⟩, .slice none 0 0, .slice none 0 0] 44)).cell? ⟨w.heap.size, k, none⟩ = #[.int .i64 2, .string ⟨#[]⟩, .slice none 0 0, .slice none 0 0, .bool false, .int .i64 0, .slice none 0 0, .slice (some ⟨b, off, none⟩) 3 c][k]? := fun k => (World.cell?_alloc_lt _ _ _ (by simp)).trans (cell_new w _ _ k)
  have hr : ∀ k, ((w.alloc (.cells #[.int .i64 2, .string ⟨#[]⟩, .slice none 0 0, .slice none 0 0, .bool false, .int .i64 0, .slice none 0 0, .slice (some ⟨b, off, none⟩) 3 c] 28)).alloc (.cells #[.int .i64 2, .int .i64 8, .int .i64 0, .string ⟨#[]⟩, .slice none 0 0, .slice none 0 0] 44)).cell? ⟨w.heap.size + 1, k, none⟩ = #[.int .i64 2, .int .i64 8, .int .i64 0, .string ⟨#[]⟩, .slice none 0 0, .slice none 0 0][k]? := fun k => by
    have := cell_new (w.alloc (.cells #[.int .i64 2, .string ⟨#[]⟩, .slice none 0 0, .slice none 0 0, .bool false, .int .i64 0, .slice none 0 0, .slice (some ⟨b, off, none⟩) 3 c] 28)) #[.int .i64 2, .int .i64 8, .int .i64 0, .string ⟨#[]⟩, .slice none 0 0, .slice none 0 0] 44 k
    rwa [World.size_alloc] at this
  have hqz : w.heap.size + 1 < ((w.alloc (.cells #[.int .i64 2, .string ⟨#[]⟩, .slice none 0 0, .slice none 0 0, .bool false, .int .i64 0, .slice none 0 0, .slice (some ⟨b, off, none⟩) 3 c] 28)).alloc (.cells #[.int .i64 2, .int .i64 8, .int .i64 0, .string ⟨#[]⟩, .slice none 0 0, .slice none 0 0] 44)).heap.size := by simp
  have He := Lib.hid (fun w h hB hp hi hv => valueError_E (B := B) b off c 8 w h hB hp hi hv (by omega))
  have hb : inB [⟨1, 5⟩, ⟨8, 8⟩] 8 = true := by decide
  have HP := Lib.hid (fun w hP => hb ▸ isPermitted_of (.slice (some ⟨b, off, none⟩) 3 c) [⟨1, 5⟩, ⟨8, 8⟩] 8 w (by simp) hP)
  have H := Lib.hid h; have Hp := Lib.hid hp; have Hi := Lib.hid hi; have Hv := Lib.hid hv
  clear h hp hi hv hb
  go_enter Tryz.func11, Tryz.ntmps11
  go_wp2_with fail
  generalize (w.alloc (.cells #[.int .i64 2, .string ⟨#[]⟩, .slice none 0 0, .slice none 0 0, .bool false, .int .i64 0, .slice none 0 0, .slice (some ⟨b, off, none⟩) 3 c] 28)).alloc (.cells #[.int .i64 2, .int .i64 8, .int .i64 0, .string ⟨#[]⟩, .slice none 0 0, .slice none 0 0] 44) = W at *
  refine (He.out _ (H.out.keep (hf.2.mono hB)) (Nat.le_trans hB hf.2.size) (Hp.out.keep hf.2) (Hi.out.keep hf.2) (Hv.out.keep hf.2)).mono ?_
  rintro e w1 ⟨rfl, hf1⟩
  have hF1 : Fr w.heap.size w w1 := hf.trans hf1
  have hrr : ∀ k, w1.cell? ⟨w.heap.size + 1, k, none⟩ = #[.int .i64 2, .int .i64 8, .int .i64 0, .string ⟨#[]⟩, .slice none 0 0, .slice none 0 0][k]? := fun k => (hf1.cell (p := ⟨w.heap.size + 1, k, none⟩) hqz).trans (hr k)
  have hqq : ∀ k, w1.cell? ⟨w.heap.size, k, none⟩ = #[.int .i64 2, .string ⟨#[]⟩, .slice none 0 0, .slice none 0 0, .bool false, .int .i64 0, .slice none 0 0, .slice (some ⟨b, off, none⟩) 3 c][k]? := fun k => (hf1.cell (p := ⟨w.heap.size, k, none⟩) (Nat.lt_of_succ_lt hqz)).trans (hq k)
  have r0 := hrr 0; have r1 := hrr 1; have r2 := hrr 2; have r3 := hrr 3; have r4 := hrr 4; have r5 := hrr 5
  have q0 := hqq 0; have q1 := hqq 1; have q2 := hqq 2; have q3 := hqq 3; have q4 := hqq 4; have q5 := hqq 5; have q6 := hqq 6; have q7 := hqq 7
  clear hq hr hrr hqq hf hf1 hqz
  go_wp2_with fail
  refine (HP.out w1 (fun w' hf' => permitted_E (B := B) b off c w' (H.out.keep ((hF1.trans hf').2.mono hB)) (Nat.le_trans hB (hF1.trans hf').2.size))).mono ?_
  rintro e w2 ⟨rfl, hf2⟩
  go_wp2_with fail
  go_ret2
  exact ⟨rfl, hF1.trans hf2⟩
set_option maxRecDepth 100000 in
set_option maxHeartbeats 2000000 in
theorem InRoot_E {B : Nat} (b off c : Nat) (w : World) (h : LimAt B w (some ⟨b, off, none⟩) exE) (hB : B ≤ w.heap.size) (hp : PartTy w) (hi : PartInt w) (hv : PartVal w) (hc : 3 ≤ c) :
    Calls Tryz.prog 19 #[.agg #[.int .i64 2, .string ⟨#[]⟩, .slice none 0 0, .slice none 0 0, .bool false, .int .i64 0, .slice none 0 0, .slice (some ⟨b, off, none⟩) 3 c], .agg #[.int .i64 2, .int .i64 8, .int .i64 0, .string ⟨#[]⟩, .slice none 0 0, .slice none 0 0]] w fun e w' => e = .returned (.tuple #[.bool false, .int .i64 0]) ∧ Fr w.heap.size w w' := by
  have hf := ((Fr.self w).alloc (.cells #[.int .i64 2, .string ⟨#[]⟩, .slice none 0 0, .slice none 0 0, .bool false, .int .i64 0, .slice none 0 0, .slice (some ⟨b, off, none⟩) 3 c] 28)).alloc (.cells #[.int .i64 2, .int .i64 8, .int .i64 0, .string ⟨#[]⟩, .slice none 0 0, .slice none 0 0] 44)
  have hq : ∀ k, ((w.alloc (.cells #[.int .i64 2, .string ⟨#[]⟩, .slice none 0 0, .slice none 0 0, .bool false, .int .i64 0, .slice none 0 0, .slice (some ⟨b, off, none⟩) 3 c] 28)).alloc (.cells #[.int .i64 2, .int .i64 8, .int .i64 0, .string ⟨#[]⟩, .slice none 0 0, .slice none 0 0] 44)).cell? ⟨w.heap.size, k, none⟩ = #[.int .i64 2, .string ⟨#[]⟩, .slice none 0 0, .slice none 0 0, .bool false, .int .i64 0, .slice none 0 0, .slice (some ⟨b, off, none⟩) 3 c][k]? := fun k => (World.cell?_alloc_lt _ _ _ (by simp)).trans (cell_new w _ _ k)
  have hz7 : ((w.alloc (.cells #[.int .i64 2, .string ⟨#[]⟩, .slice none 0 0, .slice none 0 0, .bool false, .int .i64 0, .slice none 0 0, .slice (some ⟨b, off, none⟩) 3 c] 28)).alloc (.cells #[.int .i64 2, .int .i64 8, .int .i64 0, .string ⟨#[]⟩, .slice none 0 0, .slice none 0 0] 44)).frozen? ⟨w.heap.size, 7, none⟩ = false := (((Fr.self (w.alloc (.cells #[.int .i64 2, .string ⟨#[]⟩, .slice none 0 0, .slice none 0 0, .bool false, .int .i64 0, .slice none 0 0, .slice (some ⟨b, off, none⟩) 3 c] 28))).alloc _).frozen (p := ⟨w.heap.size, 7, none⟩) (by simp)).trans (frozen_new w _ _ 7)
  have hr : ∀ k, ((w.alloc (.cells #[.int .i64 2, .string ⟨#[]⟩, .slice none 0 0, .slice none 0 0, .bool false, .int .i64 0, .slice none 0 0, .slice (some ⟨b, off, none⟩) 3 c] 28)).alloc (.cells #[.int .i64 2, .int .i64 8, .int .i64 0, .string ⟨#[]⟩, .slice none 0 0, .slice none 0 0] 44)).cell? ⟨w.heap.size + 1, k, none⟩ = #[.int .i64 2, .int .i64 8, .int .i64 0, .string ⟨#[]⟩, .slice none 0 0, .slice none 0 0][k]? := fun k => by
    have := cell_new (w.alloc (.cells #[.int .i64 2, .string ⟨#[]⟩, .slice none 0 0, .slice none 0 0, .bool false, .int .i64 0, .slice none 0 0, .slice (some ⟨b, off, none⟩) 3 c] 28)) #[.int .i64 2, .int .i64 8, .int .i64 0, .string ⟨#[]⟩, .slice none 0 0, .slice none 0 0] 44 k
    rwa [World.size_alloc] at this
  have hqz : w.heap.size + 1 < ((w.alloc (.cells #[.int .i64 2, .string ⟨#[]⟩, .slice none 0 0, .slice none 0 0, .bool false, .int .i64 0, .slice none 0 0, .slice (some ⟨b, off, none⟩) 3 c] 28)).alloc (.cells #[.int .i64 2, .int .i64 8, .int .i64 0, .string ⟨#[]⟩, .slice none 0 0, .slice none 0 0] 44)).heap.size := by simp
  have He := Lib.hid (fun w h hB hp hi hv => valueError_E (B := B) b off c 8 w h hB hp hi hv (by omega))
  have hb : inB [⟨1, 5⟩] 8 = false := by decide
  have HP := Lib.hid (fun w hP => hb ▸ isPermitted_of (.slice (some ⟨b, off, none⟩) 1 c) [⟨1, 5⟩] 8 w (by simp) hP)
  have Hro := Lib.hid (fun w h => rootOf_E (B := B) b off c w h hc)
  have H := Lib.hid h; have Hp := Lib.hid hp; have Hi := Lib.hid hi; have Hv := Lib.hid hv
  clear h hp hi hv hb
  go_enter Tryz.func19, Tryz.ntmps19
  go_wp2_with fail
  generalize (w.alloc (.cells #[.int .i64 2, .string ⟨#[]⟩, .slice none 0 0, .slice none 0 0, .bool false, .int .i64 0, .slice none 0 0, .slice (some ⟨b, off, none⟩) 3 c] 28)).alloc (.cells #[.int .i64 2, .int .i64 8, .int .i64 0, .string ⟨#[]⟩, .slice none 0 0, .slice none 0 0] 44) = W at *
  refine (He.out _ (H.out.keep (hf.2.mono hB)) (Nat.le_trans hB hf.2.size) (Hp.out.keep hf.2) (Hi.out.keep hf.2) (Hv.out.keep hf.2)).mono ?_
  rintro e w1 ⟨rfl, hf1⟩
  have hF1 : Fr w.heap.size w w1 := hf.trans hf1
  have hrr : ∀ k, w1.cell? ⟨w.heap.size + 1, k, none⟩ = #[.int .i64 2, .int .i64 8, .int .i64 0, .string ⟨#[]⟩, .slice none 0 0, .slice none 0 0][k]? := fun k => (hf1.cell (p := ⟨w.heap.size + 1, k, none⟩) hqz).trans (hr k)
  have hqq : ∀ k, w1.cell? ⟨w.heap.size, k, none⟩ = #[.int .i64 2, .string ⟨#[]⟩, .slice none 0 0, .slice none 0 0, .bool false, .int .i64 0, .slice none 0 0, .slice (some ⟨b, off, none⟩) 3 c][k]? := fun k => (hf1.cell (p := ⟨w.heap.size, k, none⟩) (Nat.lt_of_succ_lt hqz)).trans (hq k)
  have hz7' : w1.frozen? ⟨w.heap.size, 7, none⟩ = false := (hf1.frozen (p := ⟨w.heap.size, 7, none⟩) (Nat.lt_of_succ_lt hqz)).trans hz7
  have r0 := hrr 0; have r1 := hrr 1; have r2 := hrr 2; have r3 := hrr 3; have r4 := hrr 4; have r5 := hrr 5
  have q0 := hqq 0; have q1 := hqq 1; have q2 := hqq 2; have q3 := hqq 3; have q4 := hqq 4; have q5 := hqq 5; have q6 := hqq 6; have q7 := hqq 7
  clear hq hr hrr hqq hf hf1 hqz hz7
  go_wp2_with fail
  refine (Hro.out _ (H.out.keep (hF1.2.mono hB))).mono ?_
  rintro e w' ⟨rfl, rfl⟩
  go_wp2_with fail
  have hF2 : Fr w.heap.size w (w1.setCell ⟨w.heap.size, 7, none⟩ (.slice (some ⟨b, off, none⟩) 1 c)) := hF1.setCell (Nat.le_refl _) _
  refine (HP.out _ (fun w' hf' => permitted_R (B := B) b off c w' (H.out.keep ((hF2.trans hf').2.mono hB)) (Nat.le_trans hB (hF2.trans hf').2.size))).mono ?_
  rintro e w2 ⟨rfl, hf2⟩
  go_wp2_with fail
  go_ret2
  exact ⟨rfl, hF2.trans hf2⟩
/-- What a cell holds, if it holds something. -/
def cellAt (w : World) (a : Addr) : Value := (w.cell? a).getD undef
theorem cellAt_of {w : World} {a : Addr} {v : Value} (h : w.cell? a = some v) : w.cell? a = some (cellAt w a) := by unfold cellAt; rw [h]; rfl
theorem cellAt_keep {w w' : World} {a : Addr} (h : w'.cell? a = w.cell? a) (h2 : w.cell? a = some (cellAt w a)) : w'.cell? a = some (cellAt w' a) := cellAt_of (h.trans h2)
theorem cellAt_drew {w : World} {a : Addr} (h : w.cell? a = some (cellAt w a)) : w.drew.cell? a = some (cellAt w.drew a) := h
set_option maxRecDepth 100000 in
set_option maxHeartbeats 4000000 in
theorem RangeOf_E {B : Nat} (b off c : Nat) (w : World) (h : LimAt B w (some ⟨b, off, none⟩) exE) (hB : B ≤ w.heap.size) (hp : PartTy w) (hc : 3 ≤ c) :
    Calls Tryz.prog 20 #[.agg #[.int .i64 2, .string ⟨#[]⟩, .slice none 0 0, .slice none 0 0, .bool false, .int .i64 0, .slice none 0 0, .slice (some ⟨b, off, none⟩) 3 c]] w fun e w' => e = .returned (.tuple #[.agg #[.int .i64 1, .int .i64 5], .bool true, .int .i64 0]) ∧ Fr w.heap.size w w' := by
  have hf := ((Fr.self w).alloc (.cells #[.int .i64 2, .string ⟨#[]⟩, .slice none 0 0, .slice none 0 0, .bool false, .int .i64 0, .slice none 0 0, .slice (some ⟨b, off, none⟩) 3 c] 28)).alloc (.cells #[.int .i64 0, .int .i64 0] 55)
  have hq : ∀ k, ((w.alloc (.cells #[.int .i64 2, .string ⟨#[]⟩, .slice none 0 0, .slice none 0 0, .bool false, .int .i64 0, .slice none 0 0, .slice (some ⟨b, off, none⟩) 3 c] 28)).alloc (.cells #[.int .i64 0, .int .i64 0] 55)).cell? ⟨w.heap.size, k, none⟩ = #[.int .i64 2, .string ⟨#[]⟩, .slice none 0 0, .slice none 0 0, .bool false, .int .i64 0, .slice none 0 0, .slice (some ⟨b, off, none⟩) 3 c][k]? := fun k => (World.cell?_alloc_lt _ _ _ (by simp)).trans (cell_new w _ _ k)
  have hr : ∀ k, ((w.alloc (.cells #[.int .i64 2, .string ⟨#[]⟩, .slice none 0 0, .slice none 0 0, .bool false, .int .i64 0, .slice none 0 0, .slice (some ⟨b, off, none⟩) 3 c] 28)).alloc (.cells #[.int .i64 0, .int .i64 0] 55)).cell? ⟨w.heap.size + 1, k, none⟩ = #[.int .i64 0, .int .i64 0][k]? := fun k => by
    have := cell_new (w.alloc (.cells #[.int .i64 2, .string ⟨#[]⟩, .slice none 0 0, .slice none 0 0, .bool false, .int .i64 0, .slice none 0 0, .slice (some ⟨b, off, none⟩) 3 c] 28)) #[.int .i64 0, .int .i64 0] 55 k
    rwa [World.size_alloc] at this
  have hrz : ∀ k, ((w.alloc (.cells #[.int .i64 2, .string ⟨#[]⟩, .slice none 0 0, .slice none 0 0, .bool false, .int .i64 0, .slice none 0 0, .slice (some ⟨b, off, none⟩) 3 c] 28)).alloc (.cells #[.int .i64 0, .int .i64 0] 55)).frozen? ⟨w.heap.size + 1, k, none⟩ = false := fun k => by
    have := frozen_new (w.alloc (.cells #[.int .i64 2, .string ⟨#[]⟩, .slice none 0 0, .slice none 0 0, .bool false, .int .i64 0, .slice none 0 0, .slice (some ⟨b, off, none⟩) 3 c] 28)) #[.int .i64 0, .int .i64 0] 55 k
    rwa [World.size_alloc] at this
  have hqz : w.heap.size + 1 < ((w.alloc (.cells #[.int .i64 2, .string ⟨#[]⟩, .slice none 0 0, .slice none 0 0, .bool false, .int .i64 0, .slice none 0 0, .slice (some ⟨b, off, none⟩) 3 c] 28)).alloc (.cells #[.int .i64 0, .int .i64 0] 55)).heap.size := by simp
  have Ht := Lib.hid (fun w h hB hp => typeError_E (B := B) b off c w h hB hp)
  have Hro := Lib.hid (fun w h => rootOf_E (B := B) b off c w h hc)
  have Hop := Lib.hid (fun w h => isOpen_E (B := B) b off c w h)
  have Hpn := Lib.hid (fun w h hB => permitted_R (B := B) b off c w h hB)
  have H := Lib.hid h; have Hp := Lib.hid hp
  clear h hp
  go_enter Tryz.func20, Tryz.ntmps20
  go_wp2_with fail
  generalize (w.alloc (.cells #[.int .i64 2, .string ⟨#[]⟩, .slice none 0 0, .slice none 0 0, .bool false, .int .i64 0, .slice none 0 0, .slice (some ⟨b, off, none⟩) 3 c] 28)).alloc (.cells #[.int .i64 0, .int .i64 0] 55) = W at *
  refine (Ht.out _ (H.out.keep (hf.2.mono hB)) (Nat.le_trans hB hf.2.size) (Hp.out.keep hf.2)).mono ?_
  rintro e w1 ⟨rfl, hf1⟩
  have hF1 : Fr w.heap.size w w1 := hf.trans hf1
  have hqq : ∀ k, w1.cell? ⟨w.heap.size, k, none⟩ = #[.int .i64 2, .string ⟨#[]⟩, .slice none 0 0, .slice none 0 0, .bool false, .int .i64 0, .slice none 0 0, .slice (some ⟨b, off, none⟩) 3 c][k]? := fun k => (hf1.cell (p := ⟨w.heap.size, k, none⟩) (Nat.lt_of_succ_lt hqz)).trans (hq k)
  have r0 := (hf1.cell (p := ⟨w.heap.size + 1, 0, none⟩) hqz).trans (hr 0)
  have r1 := (hf1.cell (p := ⟨w.heap.size + 1, 1, none⟩) hqz).trans (hr 1)
  have z0 := (hf1.frozen (p := ⟨w.heap.size + 1, 0, none⟩) hqz).trans (hrz 0)
  have z1 := (hf1.frozen (p := ⟨w.heap.size + 1, 1, none⟩) hqz).trans (hrz 1)
  have q0 := hqq 0; have q1 := hqq 1; have q2 := hqq 2; have q3 := hqq 3; have q4 := hqq 4; have q5 := hqq 5; have q6 := hqq 6; have q7 := hqq 7
  have hz1 : w.heap.size + 1 < w1.heap.size := cell_block r0
  clear hq hr hrz hqq hf hf1 hqz
  have hz0 : w.heap.size < w1.heap.size := Nat.lt_of_succ_lt hz1
  have q7' : (w1.alloc (.cells #[.int .i64 2, .string ⟨#[]⟩, .slice none 0 0, .slice none 0 0, .bool false, .int .i64 0, .slice none 0 0, .slice (some ⟨b, off, none⟩) 3 c] 28)).cell? ⟨w.heap.size, 7, none⟩ = some (.slice (some ⟨b, off, none⟩) 3 c) := (World.cell?_alloc_lt _ _ _ hz0).trans q7
  go_wp2_with (go_at_call 35; refine (Hro.out _ (H.out.keep ((hF1.alloc _).2.mono hB))).mono ?_; rintro e w' ⟨rfl, rfl⟩)
  have hF3 : Fr w.heap.size w (w1.alloc (.cells #[.int .i64 2, .string ⟨#[]⟩, .slice none 0 0, .slice none 0 0, .bool false, .int .i64 0, .slice none 0 0, .slice (some ⟨b, off, none⟩) 1 c] 28)) := hF1.alloc _
  have hold : ∀ (a k : Nat), a < w1.heap.size → (w1.alloc (.cells #[.int .i64 2, .string ⟨#[]⟩, .slice none 0 0, .slice none 0 0, .bool false, .int .i64 0, .slice none 0 0, .slice (some ⟨b, off, none⟩) 1 c] 28)).cell? ⟨a, k, none⟩ = w1.cell? ⟨a, k, none⟩ := fun a k ha => World.cell?_alloc_lt _ _ _ ha
  have hfz : ∀ (a k : Nat), a < w1.heap.size → (w1.alloc (.cells #[.int .i64 2, .string ⟨#[]⟩, .slice none 0 0, .slice none 0 0, .bool false, .int .i64 0, .slice none 0 0, .slice (some ⟨b, off, none⟩) 1 c] 28)).frozen? ⟨a, k, none⟩ = w1.frozen? ⟨a, k, none⟩ := fun a k ha => ((Fr.self w1).alloc _).frozen (p := ⟨a, k, none⟩) ha
  have hnew : ∀ k, (w1.alloc (.cells #[.int .i64 2, .string ⟨#[]⟩, .slice none 0 0, .slice none 0 0, .bool false, .int .i64 0, .slice none 0 0, .slice (some ⟨b, off, none⟩) 1 c] 28)).cell? ⟨w1.heap.size, k, none⟩ = #[.int .i64 2, .string ⟨#[]⟩, .slice none 0 0, .slice none 0 0, .bool false, .int .i64 0, .slice none 0 0, .slice (some ⟨b, off, none⟩) 1 c][k]? := fun k => cell_new w1 _ _ k
  generalize w1.alloc (.cells #[.int .i64 2, .string ⟨#[]⟩, .slice none 0 0, .slice none 0 0, .bool false, .int .i64 0, .slice none 0 0, .slice (some ⟨b, off, none⟩) 1 c] 28) = W3 at *
  have p7 := (hold w.heap.size 7 hz0).trans q7
  have p0 := (hold (w.heap.size + 1) 0 hz1).trans r0
  have p1 := (hold (w.heap.size + 1) 1 hz1).trans r1
  have y0 := (hfz (w.heap.size + 1) 0 hz1).trans z0
  have y1 := (hfz (w.heap.size + 1) 1 hz1).trans z1
  have n0 := hnew 0; have n1 := hnew 1; have n2 := hnew 2; have n3 := hnew 3; have n4 := hnew 4; have n5 := hnew 5; have n6 := hnew 6; have n7 := hnew 7
  have hzW : w1.heap.size < W3.heap.size := cell_block n7
  have i0 : W3.cell? ⟨w.heap.size + 1, 0, none⟩ = some (cellAt W3 ⟨w.heap.size + 1, 0, none⟩) := cellAt_of p0
  have i1 : W3.cell? ⟨w.heap.size + 1, 1, none⟩ = some (cellAt W3 ⟨w.heap.size + 1, 1, none⟩) := cellAt_of p1
  clear hold hfz hnew q0 q1 q2 q3 q4 q5 q6 q7 q7' r0 r1 z0 z1 p0 p1 hF1
  have Hef := Lib.hid (fun (A : Option Addr) (cn : Nat) w h => effective_one 1 5 A cn w h)
  go_region_held3 (fun w' => Fr w.heap.size w w' ∧ w1.heap.size < w'.heap.size ∧ w.heap.size + 1 < w1.heap.size ∧ w'.cell? ⟨w.heap.size, 7, none⟩ = some (.slice (some ⟨b, off, none⟩) 3 c) ∧ w'.frozen? ⟨w.heap.size + 1, 0, none⟩ = false ∧ w'.frozen? ⟨w.heap.size + 1, 1, none⟩ = false ∧ w'.cell? ⟨w.heap.size + 1, 0, none⟩ = some (cellAt w' ⟨w.heap.size + 1, 0, none⟩) ∧ w'.cell? ⟨w.heap.size + 1, 1, none⟩ = some (cellAt w' ⟨w.heap.size + 1, 1, none⟩) ∧ w'.cell? ⟨w1.heap.size, 0, none⟩ = some (.int .i64 2) ∧ w'.cell? ⟨w1.heap.size, 1, none⟩ = some (.string ⟨#[]⟩) ∧ w'.cell? ⟨w1.heap.size, 2, none⟩ = some (.slice none 0 0) ∧ w'.cell? ⟨w1.heap.size, 3, none⟩ = some (.slice none 0 0) ∧ w'.cell? ⟨w1.heap.size, 4, none⟩ = some (.bool false) ∧ w'.cell? ⟨w1.heap.size, 5, none⟩ = some (.int .i64 0) ∧ w'.cell? ⟨w1.heap.size, 6, none⟩ = some (.slice none 0 0) ∧ w'.cell? ⟨w1.heap.size, 7, none⟩ = some (.slice (some ⟨b, off, none⟩) 1 c))
    (first
      | assumption
      | (go_split_ands; exact ⟨Fr.trans (by assumption) hf5, Nat.lt_of_lt_of_le (by assumption) hf5.2.size, hz1, (hf5.cell (p := ⟨w.heap.size, 7, none⟩) (by first | assumption | exact Nat.lt_trans hz1 (by assumption) | exact Nat.lt_trans hz0 (by assumption))).trans (by assumption), (hf5.frozen (p := ⟨w.heap.size + 1, 0, none⟩) (by first | assumption | exact Nat.lt_trans hz1 (by assumption) | exact Nat.lt_trans hz0 (by assumption))).trans (by assumption), (hf5.frozen (p := ⟨w.heap.size + 1, 1, none⟩) (by first | assumption | exact Nat.lt_trans hz1 (by assumption) | exact Nat.lt_trans hz0 (by assumption))).trans (by assumption), cellAt_keep (hf5.cell (p := ⟨w.heap.size + 1, 0, none⟩) (by first | assumption | exact Nat.lt_trans hz1 (by assumption) | exact Nat.lt_trans hz0 (by assumption))) (by assumption), cellAt_keep (hf5.cell (p := ⟨w.heap.size + 1, 1, none⟩) (by first | assumption | exact Nat.lt_trans hz1 (by assumption) | exact Nat.lt_trans hz0 (by assumption))) (by assumption), (hf5.cell (p := ⟨w1.heap.size, 0, none⟩) (by first | assumption | exact Nat.lt_trans hz1 (by assumption) | exact Nat.lt_trans hz0 (by assumption))).trans (by assumption), (hf5.cell (p := ⟨w1.heap.size, 1, none⟩) (by first | assumption | exact Nat.lt_trans hz1 (by assumption) | exact Nat.lt_trans hz0 (by assumption))).trans (by assumption), (hf5.cell (p := ⟨w1.heap.size, 2, none⟩) (by first | assumption | exact Nat.lt_trans hz1 (by assumption) | exact Nat.lt_trans hz0 (by assumption))).trans (by assumption), (hf5.cell (p := ⟨w1.heap.size, 3, none⟩) (by first | assumption | exact Nat.lt_trans hz1 (by assumption) | exact Nat.lt_trans hz0 (by assumption))).trans (by assumption), (hf5.cell (p := ⟨w1.heap.size, 4, none⟩) (by first | assumption | exact Nat.lt_trans hz1 (by assumption) | exact Nat.lt_trans hz0 (by assumption))).trans (by assumption), (hf5.cell (p := ⟨w1.heap.size, 5, none⟩) (by first | assumption | exact Nat.lt_trans hz1 (by assumption) | exact Nat.lt_trans hz0 (by assumption))).trans (by assumption), (hf5.cell (p := ⟨w1.heap.size, 6, none⟩) (by first | assumption | exact Nat.lt_trans hz1 (by assumption) | exact Nat.lt_trans hz0 (by assumption))).trans (by assumption), (hf5.cell (p := ⟨w1.heap.size, 7, none⟩) (by first | assumption | exact Nat.lt_trans hz1 (by assumption) | exact Nat.lt_trans hz0 (by assumption))).trans (by assumption)⟩)
      | (go_split_ands; exact ⟨Fr.trans (by assumption) hf7, Nat.lt_of_lt_of_le (by assumption) hf7.2.size, hz1, (hf7.cell (p := ⟨w.heap.size, 7, none⟩) (by first | assumption | exact Nat.lt_trans hz1 (by assumption) | exact Nat.lt_trans hz0 (by assumption))).trans (by assumption), (hf7.frozen (p := ⟨w.heap.size + 1, 0, none⟩) (by first | assumption | exact Nat.lt_trans hz1 (by assumption) | exact Nat.lt_trans hz0 (by assumption))).trans (by assumption), (hf7.frozen (p := ⟨w.heap.size + 1, 1, none⟩) (by first | assumption | exact Nat.lt_trans hz1 (by assumption) | exact Nat.lt_trans hz0 (by assumption))).trans (by assumption), cellAt_keep (hf7.cell (p := ⟨w.heap.size + 1, 0, none⟩) (by first | assumption | exact Nat.lt_trans hz1 (by assumption) | exact Nat.lt_trans hz0 (by assumption))) (by assumption), cellAt_keep (hf7.cell (p := ⟨w.heap.size + 1, 1, none⟩) (by first | assumption | exact Nat.lt_trans hz1 (by assumption) | exact Nat.lt_trans hz0 (by assumption))) (by assumption), (hf7.cell (p := ⟨w1.heap.size, 0, none⟩) (by first | assumption | exact Nat.lt_trans hz1 (by assumption) | exact Nat.lt_trans hz0 (by assumption))).trans (by assumption), (hf7.cell (p := ⟨w1.heap.size, 1, none⟩) (by first | assumption | exact Nat.lt_trans hz1 (by assumption) | exact Nat.lt_trans hz0 (by assumption))).trans (by assumption), (hf7.cell (p := ⟨w1.heap.size, 2, none⟩) (by first | assumption | exact Nat.lt_trans hz1 (by assumption) | exact Nat.lt_trans hz0 (by assumption))).trans (by assumption), (hf7.cell (p := ⟨w1.heap.size, 3, none⟩) (by first | assumption | exact Nat.lt_trans hz1 (by assumption) | exact Nat.lt_trans hz0 (by assumption))).trans (by assumption), (hf7.cell (p := ⟨w1.heap.size, 4, none⟩) (by first | assumption | exact Nat.lt_trans hz1 (by assumption) | exact Nat.lt_trans hz0 (by assumption))).trans (by assumption), (hf7.cell (p := ⟨w1.heap.size, 5, none⟩) (by first | assumption | exact Nat.lt_trans hz1 (by assumption) | exact Nat.lt_trans hz0 (by assumption))).trans (by assumption), (hf7.cell (p := ⟨w1.heap.size, 6, none⟩) (by first | assumption | exact Nat.lt_trans hz1 (by assumption) | exact Nat.lt_trans hz0 (by assumption))).trans (by assumption), (hf7.cell (p := ⟨w1.heap.size, 7, none⟩) (by first | assumption | exact Nat.lt_trans hz1 (by assumption) | exact Nat.lt_trans hz0 (by assumption))).trans (by assumption)⟩)
      | (go_split_ands; exact ⟨hF3.drew, hzW, hz1, p7, y0, y1, i0, i1, n0, n1, n2, n3, n4, n5, n6, n7⟩)
      | (go_split_ands; exact ⟨Fr.setCell (Fr.setCell (by assumption) (Nat.le_succ _) _) (Nat.le_succ _) _, (by simpa using (by assumption)), hz1, (World.cell?_setCell_other _ _ _ _ (by intro e1; injection e1 with e2; omega)).trans ((World.cell?_setCell_other _ _ _ _ (by intro e1; injection e1 with e2; omega)).trans (by assumption)), (World.frozen?_setCell _ _ _ _).trans ((World.frozen?_setCell _ _ _ _).trans (by assumption)), (World.frozen?_setCell _ _ _ _).trans ((World.frozen?_setCell _ _ _ _).trans (by assumption)), cellAt_of ((World.cell?_setCell_other _ _ _ _ (by simp)).trans (World.cell?_setCell_same _ _ _ (by assumption))), cellAt_of (World.cell?_setCell_same _ _ _ ((World.cell?_setCell_other _ _ _ _ (by simp)).trans (by assumption))), (World.cell?_setCell_other _ _ _ _ (by intro e1; injection e1 with e2; omega)).trans ((World.cell?_setCell_other _ _ _ _ (by intro e1; injection e1 with e2; omega)).trans (by assumption)), (World.cell?_setCell_other _ _ _ _ (by intro e1; injection e1 with e2; omega)).trans ((World.cell?_setCell_other _ _ _ _ (by intro e1; injection e1 with e2; omega)).trans (by assumption)), (World.cell?_setCell_other _ _ _ _ (by intro e1; injection e1 with e2; omega)).trans ((World.cell?_setCell_other _ _ _ _ (by intro e1; injection e1 with e2; omega)).trans (by assumption)), (World.cell?_setCell_other _ _ _ _ (by intro e1; injection e1 with e2; omega)).trans ((World.cell?_setCell_other _ _ _ _ (by intro e1; injection e1 with e2; omega)).trans (by assumption)), (World.cell?_setCell_other _ _ _ _ (by intro e1; injection e1 with e2; omega)).trans ((World.cell?_setCell_other _ _ _ _ (by intro e1; injection e1 with e2; omega)).trans (by assumption)), (World.cell?_setCell_other _ _ _ _ (by intro e1; injection e1 with e2; omega)).trans ((World.cell?_setCell_other _ _ _ _ (by intro e1; injection e1 with e2; omega)).trans (by assumption)), (World.cell?_setCell_other _ _ _ _ (by intro e1; injection e1 with e2; omega)).trans ((World.cell?_setCell_other _ _ _ _ (by intro e1; injection e1 with e2; omega)).trans (by assumption)), (World.cell?_setCell_other _ _ _ _ (by intro e1; injection e1 with e2; omega)).trans ((World.cell?_setCell_other _ _ _ _ (by intro e1; injection e1 with e2; omega)).trans (by assumption))⟩)
      | (go_split_ands; assumption))
    (first
      | (go_at_call 26; refine (Hpn.out _ (H.out.keep ((show Fr w.heap.size w _ by go_split_ands; assumption).2.mono hB)) (Nat.le_trans hB (show Fr w.heap.size w _ by go_split_ands; assumption).2.size)).mono ?_; rintro e w5 ⟨A, cn, rfl, hsp, hf5⟩)
      | (go_at_call 37; refine (Hop.out _ (H.out.keep ((show Fr w.heap.size w _ by go_split_ands; assumption).2.mono hB))).mono ?_; rintro e w6 ⟨rfl, rfl⟩)
      | (go_at_call 36; refine (Hef.out _ _ _ hsp).mono ?_; rintro e w7 ⟨rfl, hf7⟩))
  all_goals
    rename_i hHeld
    have hF := hHeld.1
    have hz5 : w.heap.size + 1 < W3.drew.heap.size := Nat.lt_trans hz1 hzW
    have g0 := (hf7.cell (p := ⟨w.heap.size + 1, 0, none⟩) (Nat.lt_of_lt_of_le hz5 hf5.2.size)).trans ((hf5.cell (p := ⟨w.heap.size + 1, 0, none⟩) hz5).trans i0)
    have g1 := (hf7.cell (p := ⟨w.heap.size + 1, 1, none⟩) (Nat.lt_of_lt_of_le hz5 hf5.2.size)).trans ((hf5.cell (p := ⟨w.heap.size + 1, 1, none⟩) hz5).trans i1)
    have m0 := (World.cell?_setCell_other (w7.setCell ⟨w.heap.size + 1, 0, none⟩ (.int .i64 1)) ⟨w.heap.size + 1, 1, none⟩ ⟨w.heap.size + 1, 0, none⟩ (.int .i64 5) (by simp)).trans (World.cell?_setCell_same w7 _ (.int .i64 1) g0)
    have m1 := World.cell?_setCell_same (w7.setCell ⟨w.heap.size + 1, 0, none⟩ (.int .i64 1)) ⟨w.heap.size + 1, 1, none⟩ (.int .i64 5) ((World.cell?_setCell_other _ ⟨w.heap.size + 1, 0, none⟩ ⟨w.heap.size + 1, 1, none⟩ _ (by simp)).trans g1)
    clear hHeld g0 g1 hf5 hf7
    generalize (w7.setCell ⟨w.heap.size + 1, 0, none⟩ (.int .i64 1)).setCell ⟨w.heap.size + 1, 1, none⟩ (.int .i64 5) = W9 at *
    go_wp2_with fail
    exact bodyPost_ret (v := .tuple #[.agg #[.int .i64 1, .int .i64 5], .bool true, .int .i64 0]) (by simp [results, Tryz.results20, go_sem, m0, m1]) rfl ⟨rfl, hF⟩
end Go.Proofs.YtgdedcdjfljcnaaGreatDoor
namespace Go.Proofs.YtgdedcdjfljcnaaGreatDoor
open Go.RowKit

theorem exE_at (w : World) (g : Nat) (W : World) (hg : g < W.heap.size) (ha : w.heap.size + 1 < W.heap.size) (a0 : W.cell? ⟨w.heap.size + 1, 0, none⟩ = some (.int .i64 0)) (a1 : W.cell? ⟨w.heap.size + 1, 1, none⟩ = some (.int .i64 1))
    (hc : ∀ k, W.cell? ⟨g, k, none⟩ = #[.int .i64 0, .int .i64 1, .int .i64 5, .string ⟨#[]⟩, .slice none 0 0, .int .i64 0, .int .i64 8, .int .i64 8, .string ⟨#[]⟩, .slice none 0 0, .int .i64 7, .int .i64 0, .int .i64 0, .string ⟨#[]⟩, .slice (some ⟨w.heap.size + 1, 0, none⟩) 2 2][k]?) : LimAt W.heap.size W (some ⟨g, 0, none⟩) exE := by
  refine .inr ⟨g, 0, fun i => if i = 2 then (some ⟨w.heap.size + 1, 0, none⟩, 2) else (none, 0), rfl, hg, fun i x hx => ?_, fun i x hx j u hu => ?_⟩
  · rcases i with _ | _ | _ | i
    · cases hx
      exact ⟨.inl rfl, Nat.le_refl _, fun _ => rfl, (by simp [InI]), (by simp [InI]), (by simp [InI]), (by decide)⟩
    · cases hx
      exact ⟨.inl rfl, Nat.le_refl _, fun _ => rfl, (by simp [InI]), (by simp [InI]), (by simp [InI]), (by decide)⟩
    · cases hx
      refine ⟨.inr ⟨w.heap.size + 1, 0, rfl, ha, fun j x hx => ?_⟩, Nat.le_refl _, (fun h => by cases h), (by simp [InI]), (by simp [InI]), (by simp [InI]), (by decide)⟩
      rcases j with _ | _ | j
      · cases hx; exact a0
      · cases hx; exact a1
      · simp at hx
    · simp [exE] at hx
  · rcases i with _ | _ | _ | i
    · cases hx
      rcases j with _ | _ | _ | _ | _ | j <;> first | (cases hu; exact hc _) | (simp [LN.cells] at hu)
    · cases hx
      rcases j with _ | _ | _ | _ | _ | j <;> first | (cases hu; exact hc _) | (simp [LN.cells] at hu)
    · cases hx
      rcases j with _ | _ | _ | _ | _ | j <;> first | (cases hu; exact hc _) | (simp [LN.cells] at hu)
    · simp [exE] at hx
set_option maxRecDepth 100000 in
theorem Example_any (w : World) : Calls Tryz.prog 18 #[] w fun e w' => ∃ b, e = .returned (.agg #[.int .i64 2, .string ⟨#[]⟩, .slice none 0 0, .slice none 0 0, .bool false, .int .i64 0, .slice none 0 0, .slice (some ⟨b, 0, none⟩) 3 3]) ∧ LimAt w'.heap.size w' (some ⟨b, 0, none⟩) exE ∧ Fr w.heap.size w w' := by
  go_enter Tryz.func18, Tryz.ntmps18
  go_wp2_with fail
  refine bodyPost_ret (v := .agg #[.int .i64 2, .string ⟨#[]⟩, .slice none 0 0, .slice none 0 0, .bool false, .int .i64 0, .slice none 0 0, .slice (some ⟨w.heap.size + 1 + 1, 0, none⟩) 3 3]) (by simp [results, Tryz.results18, go_sem]) rfl ⟨_, rfl, exE_at w _ _ (by simp) (by simp) ?_ ?_ ?_, ?_⟩
  · exact (World.cell?_alloc_lt _ _ _ (by simp)).trans (by have := cell_new (w.alloc (.cells #[.int .i64 2, .string ⟨#[]⟩, .slice none 0 0, .slice none 0 0, .bool false, .int .i64 0, .slice none 0 0, .slice (some ⟨w.heap.size + 1 + 1, 0, none⟩) 3 3] 28)) #[.int .i64 0, .int .i64 1] 3 0; rwa [World.size_alloc] at this)
  · exact (World.cell?_alloc_lt _ _ _ (by simp)).trans (by have := cell_new (w.alloc (.cells #[.int .i64 2, .string ⟨#[]⟩, .slice none 0 0, .slice none 0 0, .bool false, .int .i64 0, .slice none 0 0, .slice (some ⟨w.heap.size + 1 + 1, 0, none⟩) 3 3] 28)) #[.int .i64 0, .int .i64 1] 3 1; rwa [World.size_alloc] at this)
  · intro k
    have := cell_new ((w.alloc (.cells #[.int .i64 2, .string ⟨#[]⟩, .slice none 0 0, .slice none 0 0, .bool false, .int .i64 0, .slice none 0 0, .slice (some ⟨w.heap.size + 1 + 1, 0, none⟩) 3 3] 28)).alloc (.cells #[.int .i64 0, .int .i64 1] 3)) #[.int .i64 0, .int .i64 1, .int .i64 5, .string ⟨#[]⟩, .slice none 0 0, .int .i64 0, .int .i64 8, .int .i64 8, .string ⟨#[]⟩, .slice none 0 0, .int .i64 7, .int .i64 0, .int .i64 0, .string ⟨#[]⟩, .slice (some ⟨w.heap.size + 1, 0, none⟩) 2 2] 66 k
    rwa [World.size_alloc, World.size_alloc] at this
  · exact (((Fr.self w).alloc _).alloc _).alloc _
theorem Int_any (n : Int) (w : World) : Calls Tryz.prog 12 #[.int .i64 n] w fun e w' => e = .returned (.agg #[.int .i64 2, .int .i64 n, .int .i64 0, .string ⟨#[]⟩, .slice none 0 0, .slice none 0 0]) ∧ Fr w.heap.size w w' := by
  go_enter Tryz.func12, Tryz.ntmps12
  go_wp2_with fail
  exact bodyPost_ret (v := .agg #[.int .i64 2, .int .i64 n, .int .i64 0, .string ⟨#[]⟩, .slice none 0 0, .slice none 0 0]) (by simp [results, Tryz.results12, go_sem]) rfl ⟨rfl, (Fr.self w).alloc _⟩
set_option maxRecDepth 100000 in
set_option maxHeartbeats 2000000 in
theorem awake_any (w : World) (hp : PartTy w) (hi : PartInt w) (hv : PartVal w) : Calls Tryz.prog 4 #[] w fun e w' => e = .returned (.bool true) ∧ Fr w.heap.size w w' := by
  have hf := Fr.self w
  have Hp := Lib.hid hp; have Hi := Lib.hid hi; have Hv := Lib.hid hv
  have Hx := Lib.hid Example_any
  have Hn := Lib.hid (Int_any 8)
  have HP := Lib.hid (fun (b : Nat) w h hp hi hv => Permits_E (B := w.heap.size) b 0 3 w h (Nat.le_refl _) hp hi hv)
  have HR := Lib.hid (fun (b : Nat) w h hp hi hv => InRoot_E (B := w.heap.size) b 0 3 w h (Nat.le_refl _) hp hi hv (by omega))
  have HO := Lib.hid (fun (b : Nat) w h hp => RangeOf_E (B := w.heap.size) b 0 3 w h (Nat.le_refl _) hp (by omega))
  clear hp hi hv
  go_enter Tryz.func4, Tryz.ntmps4
  go_wp2_with fail
  refine (Hx.out _).mono ?_
  rintro e w1 ⟨b1, rfl, hl1, hf1⟩
  go_wp2_with fail
  refine (Hn.out _).mono ?_
  rintro e w2 ⟨rfl, hf2⟩
  have hF2 := (hf.trans hf1).trans hf2
  go_wp2_with fail
  refine (HP.out b1 _ ((hl1.keep hf2.2).mono hf2.2.size) (Hp.out.keep hF2.2) (Hi.out.keep hF2.2) (Hv.out.keep hF2.2)).mono ?_
  rintro e w3 ⟨rfl, hf3⟩
  have hF3 := hF2.trans hf3
  clear hf hf1 hf2 hf3 hF2 hl1
  go_wp2_with fail
  refine (Hx.out _).mono ?_
  rintro e w4 ⟨b4, rfl, hl4, hf4⟩
  go_wp2_with fail
  refine (Hn.out _).mono ?_
  rintro e w5 ⟨rfl, hf5⟩
  have hF5 := (hF3.trans hf4).trans hf5
  go_wp2_with fail
  refine (HR.out b4 _ ((hl4.keep hf5.2).mono hf5.2.size) (Hp.out.keep hF5.2) (Hi.out.keep hF5.2) (Hv.out.keep hF5.2)).mono ?_
  rintro e w6 ⟨rfl, hf6⟩
  have hF6 := hF5.trans hf6
  clear hf4 hf5 hf6 hF5 hF3 hl4
  go_wp2_with fail
  refine (Hx.out _).mono ?_
  rintro e w7 ⟨b7, rfl, hl7, hf7⟩
  have hF7 := hF6.trans hf7
  go_wp2_with fail
  refine (HO.out b7 _ hl7 (Hp.out.keep hF7.2)).mono ?_
  rintro e w8 ⟨rfl, hf8⟩
  have hF8 := hF7.trans hf8
  clear hF7 hf8 hf7 hF6 hl7
  go_wp2_with fail
  go_ret
  exact ⟨rfl, hF8.alloc _⟩
end Go.Proofs.YtgdedcdjfljcnaaGreatDoor
namespace Go.Proofs.YtgdedcdjfljcnaaGreatDoor
open Go.RowKit

set_option maxRecDepth 100000 in
theorem numbersOf_node (k : Int) (hk : k = 4 ∨ k = 5 ∨ k = 6) (b off n ca r a o ca2 : Nat) (i0 i1 : Int) (xs ys : List Sp) (w : World) (hr : r < n) (haw : a < w.heap.size)
    (e0 : w.cell? ⟨b, off + r * 5, none⟩ = some (.int .i64 k)) (e1 : w.cell? ⟨b, off + r * 5 + 1, none⟩ = some (.int .i64 0)) (e2 : w.cell? ⟨b, off + r * 5 + 2, none⟩ = some (.int .i64 0)) (e3 : w.cell? ⟨b, off + r * 5 + 3, none⟩ = some (.string ⟨#[]⟩)) (e4 : w.cell? ⟨b, off + r * 5 + 4, none⟩ = some (.slice (some ⟨a, o, none⟩) 2 ca2))
    (a0 : w.cell? ⟨a, o, none⟩ = some (.int .i64 i0)) (a1 : w.cell? ⟨a, o + 1, none⟩ = some (.int .i64 i1))
    (h0 : ∀ w1, Fr w.heap.size w w1 → Calls Tryz.prog 45 #[.slice (some ⟨b, off, none⟩) n ca, .int .i64 i0] w1 fun e w' => ∃ A cn, e = .returned (.slice A xs.length cn) ∧ (A = none → cn = 0) ∧ SpAt w'.heap.size w' A xs ∧ Fr w1.heap.size w1 w')
    (h1 : ∀ w1, Fr w.heap.size w w1 → Calls Tryz.prog 45 #[.slice (some ⟨b, off, none⟩) n ca, .int .i64 i1] w1 fun e w' => ∃ A cn, e = .returned (.slice A ys.length cn) ∧ (A = none → cn = 0) ∧ SpAt w'.heap.size w' A ys ∧ Fr w1.heap.size w1 w')
    (hxl : xs.length ≤ 100) (hyl : ys.length ≤ 100) (hxo : ∀ s ∈ xs, okB s = true) (hyo : ∀ s ∈ ys, okB s = true) :
    Calls Tryz.prog 45 #[.slice (some ⟨b, off, none⟩) n ca, .int .i64 r] w fun e w' => ∃ A cn, e = .returned (.slice A (combineL (operOf k) xs ys).length cn) ∧ (A = none → cn = 0) ∧ SpAt w'.heap.size w' A (combineL (operOf k) xs ys) ∧ Fr w.heap.size w w' := by
  have hf := (Fr.self w).alloc (.cells #[.int .i64 k, .int .i64 0, .int .i64 0, .string ⟨#[]⟩, .slice (some ⟨a, o, none⟩) 2 ca2] 66)
  have Hn0 := Lib.hid h0
  have Hn1 := Lib.hid h1
  have Hop := Lib.hid (fun w => operationOf_any k w)
  have Hk := Lib.hid (fun j => cell_new w #[.int .i64 k, .int .i64 0, .int .i64 0, .string ⟨#[]⟩, .slice (some ⟨a, o, none⟩) 2 ca2] 66 j)
  have Hcb := Lib.hid (fun (A B : Option Addr) (c d : Nat) (w2 : World) h1 h2 h3 h4 => combined_any (B := w2.heap.size) (operOf k) xs ys A B c d w2 h1 h2 h3 h4 (Nat.le_refl _) hxl hyl hxo hyo)
  have hk0 : ¬ k = 0 := by omega
  have hk1 : ¬ k = 1 := by omega
  have hr0 : (0 : Int) ≤ r := by omega
  have hr1 : (r : Int) < n := by omega
  clear h0 h1 hk hxl hyl hxo hyo hr
  generalize combineL (operOf k) xs ys = zs at *
  generalize operOf k = op at *
  go_enter Tryz.func45, Tryz.ntmps45
  go_wp2_with fail
  refine (Hn0.out _ hf).mono ?_
  rintro e w1 ⟨A1, c1, rfl, hc1, hs1, hf1⟩
  have hF1 : Fr w.heap.size w w1 := hf.trans hf1
  have k0 : w1.cell? ⟨w.heap.size, 0, none⟩ = some (.int .i64 k) := (hf1.cell (p := ⟨w.heap.size, 0, none⟩) (by simp)).trans (Hk.out 0)
  have k4 : w1.cell? ⟨w.heap.size, 4, none⟩ = some (.slice (some ⟨a, o, none⟩) 2 ca2) := (hf1.cell (p := ⟨w.heap.size, 4, none⟩) (by simp)).trans (Hk.out 4)
  have a1' := (hF1.cell (p := ⟨a, o + 1, none⟩) haw).trans a1
  have hz1 : w.heap.size < w1.heap.size := cell_block k0
  have Hs1 := Lib.hid hs1; have Hc1 := Lib.hid hc1
  clear e0 e1 e2 e3 e4 a0 a1 Hk hf hf1 hs1 hc1
  go_wp2_with fail
  refine (Hn1.out _ hF1).mono ?_
  rintro e w2 ⟨A2, c2, rfl, hc2, hs2, hf2⟩
  have hF2 : Fr w.heap.size w w2 := hF1.trans hf2
  have k0' : w2.cell? ⟨w.heap.size, 0, none⟩ = some (.int .i64 k) := (hf2.cell (p := ⟨w.heap.size, 0, none⟩) hz1).trans k0
  have Hc := Lib.hid (Hcb.out A1 A2 c1 c2 w2 ((Hs1.out.keep hf2.2).mono hf2.2.size) hs2 Hc1.out hc2)
  clear hs2 hc2 k0 k4 a1' hf2
  go_wp2_with (go_at_call 77; refine (Hop.out _).mono ?_; rintro e w' ⟨rfl, rfl⟩)
  refine (Hc.out).mono ?_
  rintro e w3 ⟨⟨v, rfl, hv⟩, hf3⟩
  obtain ⟨A, cn, rfl, hAn, hsp, -, -⟩ := SpAt.of hv
  have Hsp := Lib.hid hsp; have HA := Lib.hid hAn
  clear hsp hAn hv
  go_wp2_with fail
  go_ret
  exact ⟨A, cn, rfl, HA.out, Hsp.out, hF2.trans hf3⟩
theorem numbersOf_tree {B : Nat} (l : List LN) (b off ca : Nat) (_hlen : l.length ≤ 1000) : ∀ (T : CT) (o : Nat) (w : World), T.good → SubL l o T → T.leaves ≤ 100 → LimAt B w (some ⟨b, off, none⟩) l → B ≤ w.heap.size →
    Calls Tryz.prog 45 #[.slice (some ⟨b, off, none⟩) l.length ca, .int .i64 (((o + T.size : Nat) : Int) - 1)] w fun e w' => ∃ A cn, e = .returned (.slice A T.nums.length cn) ∧ (A = none → cn = 0) ∧ SpAt w'.heap.size w' A T.nums ∧ Fr w.heap.size w w' := by
  intro T
  induction T with
  | leaf lo hi =>
    intro o w hg hsub _ h hB
    have hx := hsub 0 _ rfl
    rw [Nat.add_zero] at hx
    obtain ⟨-, A, ca2, -, e0, e1, e2, e3, e4⟩ := h.item hx
    have hi0 := (List.getElem?_eq_some_iff.1 hx).1
    rw [show ((o + (CT.leaf lo hi).size : Nat) : Int) - 1 = ((o : Nat) : Int) by rw [CT.size]; omega]
    refine (numbersOf_range b off l.length ca o lo hi A 0 ca2 w hi0 e0 e1 e2 e3 e4).mono ?_
    rintro e w' ⟨g, rfl, -, hs, hf⟩
    exact ⟨_, _, rfl, (fun h => by cases h), hs, hf⟩
  | node k a c iha ihc =>
    intro o w hg hsub hlv h hB
    rw [CT.leaves] at hlv
    have hx := hsub.root
    have hi0 := (List.getElem?_eq_some_iff.1 hx).1
    obtain ⟨hbB, A, ca2, hr, e0, e1, e2, e3, e4⟩ := h.item hx
    obtain hh | ⟨g, go, rfl, hgB, ha⟩ := hr.args
    · simp at hh
    have a0 := ha 0 _ rfl
    have a1 := ha 1 _ rfl
    rw [Nat.add_zero] at a0
    obtain ⟨-, xo, xl⟩ := a.nums_ok hg.2.1
    obtain ⟨-, yo, yl⟩ := c.nums_ok hg.2.2
    rw [show ((o + (CT.node k a c).size : Nat) : Int) - 1 = ((o + a.size + c.size : Nat) : Int) by rw [CT.size]; omega]
    exact numbersOf_node k hg.1 b off l.length ca (o + a.size + c.size) g go ca2 _ _ a.nums c.nums w hi0 (Nat.lt_of_lt_of_le hgB hB) e0 e1 e2 e3 e4 a0 a1
      (fun w1 hf => iha o w1 hg.2.1 hsub.left (by omega) (h.keep (hf.2.mono hB)) (Nat.le_trans hB hf.2.size))
      (fun w1 hf => ihc (o + a.size) w1 hg.2.2 hsub.right (by omega) (h.keep (hf.2.mono hB)) (Nat.le_trans hB hf.2.size)) (by omega) (by omega) xo yo
end Go.Proofs.YtgdedcdjfljcnaaGreatDoor
