/- The example: Permits, InRoot, RangeOf. -/
import Derived.Test.YtoelifebmhlokaaGreatDoorSVal
namespace Go.Proofs.YtoelifebmhlokaaGreatDoor
open Go.RowKit

set_option maxRecDepth 100000 in
set_option maxHeartbeats 2000000 in
theorem Permits_E {B : Nat} (b off c : Nat) (w : World) (h : LimAt B w (some ⟨b, off, none⟩) exE) (hB : B ≤ w.heap.size) (hp : PartTy w) (hi : PartInt w) (hv : PartVal w) :
    Calls Tryz.prog 13 #[.agg #[.int .i64 2, .string ⟨#[]⟩, .slice none 0 0, .slice none 0 0, .bool false, .int .i64 0, .slice none 0 0, .slice (some ⟨b, off, none⟩) 3 c], .agg #[.int .i64 2, .int .i64 8, .int .i64 0, .string ⟨#[]⟩, .slice none 0 0, .slice none 0 0]] w fun e w' => e = .returned (.tuple #[.bool true, .int .i64 0]) ∧ Fr w.heap.size w w' := by
  have hf := ((Fr.self w).alloc (.cells #[.int .i64 2, .string ⟨#[]⟩, .slice none 0 0, .slice none 0 0, .bool false, .int .i64 0, .slice none 0 0, .slice (some ⟨b, off, none⟩) 3 c] 45)).alloc (.cells #[.int .i64 2, .int .i64 8, .int .i64 0, .string ⟨#[]⟩, .slice none 0 0, .slice none 0 0] 50)
  have hq : ∀ k, ((w.alloc (.cells #[.int .i64 2, .string ⟨#[]⟩, .slice none 0 0, .slice none 0 0, .bool false, .int .i64 0, .slice none 0 0, .slice (some ⟨b, off, none⟩) 3 c] 45)).alloc (.cells #[.int .i64 2, .int .i64 8, .int .i64 0, .string ⟨#[]⟩, .slice none 0 0, .slice none 0 0] 50)).cell? ⟨w.heap.size, k, none⟩ = #[.int .i64 2, .string ⟨#[]⟩, .slice none 0 0, .slice none 0 0, .bool false, .int .i64 0, .slice none 0 0, .slice (some ⟨b, off, none⟩) 3 c][k]? := fun k => (World.cell?_alloc_lt _ _ _ (by simp)).trans (cell_new w _ _ k)
  have hr : ∀ k, ((w.alloc (.cells #[.int .i64 2, .string ⟨#[]⟩, .slice none 0 0, .slice none 0 0, .bool false, .int .i64 0, .slice none 0 0, .slice (some ⟨b, off, none⟩) 3 c] 45)).alloc (.cells #[.int .i64 2, .int .i64 8, .int .i64 0, .string ⟨#[]⟩, .slice none 0 0, .slice none 0 0] 50)).cell? ⟨w.heap.size + 1, k, none⟩ = #[.int .i64 2, .int .i64 8, .int .i64 0, .string ⟨#[]⟩, .slice none 0 0, .slice none 0 0][k]? := fun k => by
    have := cell_new (w.alloc (.cells #[.int .i64 2, .string ⟨#[]⟩, .slice none 0 0, .slice none 0 0, .bool false, .int .i64 0, .slice none 0 0, .slice (some ⟨b, off, none⟩) 3 c] 45)) #[.int .i64 2, .int .i64 8, .int .i64 0, .string ⟨#[]⟩, .slice none 0 0, .slice none 0 0] 50 k
    rwa [World.size_alloc] at this
  have hqz : w.heap.size + 1 < ((w.alloc (.cells #[.int .i64 2, .string ⟨#[]⟩, .slice none 0 0, .slice none 0 0, .bool false, .int .i64 0, .slice none 0 0, .slice (some ⟨b, off, none⟩) 3 c] 45)).alloc (.cells #[.int .i64 2, .int .i64 8, .int .i64 0, .string ⟨#[]⟩, .slice none 0 0, .slice none 0 0] 50)).heap.size := by simp
  have He := Lib.hid (fun w h hB hp hi hv => valueError_E (B := B) b off c 8 w h hB hp hi hv (by omega))
  have hb : inB [⟨1, 5⟩, ⟨8, 8⟩] 8 = true := by decide
  have HP := Lib.hid (fun w hP => hb ▸ isPermitted_of (.slice (some ⟨b, off, none⟩) 3 c) [⟨1, 5⟩, ⟨8, 8⟩] 8 w (by simp) hP)
  have H := Lib.hid h; have Hp := Lib.hid hp; have Hi := Lib.hid hi; have Hv := Lib.hid hv
  clear h hp hi hv hb
  go_enter Tryz.func13, Tryz.ntmps13
  go_wp2_with fail
  generalize (w.alloc (.cells #[.int .i64 2, .string ⟨#[]⟩, .slice none 0 0, .slice none 0 0, .bool false, .int .i64 0, .slice none 0 0, .slice (some ⟨b, off, none⟩) 3 c] 45)).alloc (.cells #[.int .i64 2, .int .i64 8, .int .i64 0, .string ⟨#[]⟩, .slice none 0 0, .slice none 0 0] 50) = W at *
  refine (He.out _ (H.out.keep (hf.2.mono hB)) (Nat.le_trans hB hf.2.size) (Hp.out.keep hf.2) (Hi.out.keep hf.2) (Hv.out.keep hf.2)).mono ?_
  rintro e w1 ⟨rfl, hf1⟩
  have hF1 : Fr w.heap.size w w1 := hf.trans hf1
  have hrr : ∀ k, w1.cell? ⟨w.heap.size + 1, k, none⟩ = #[.int .i64 2, .int .i64 8, .int .i64 0, .string ⟨#[]⟩, .slice none 0 0, .slice none 0 0][k]? := fun k => (hf1.cell (p := ⟨w.heap.size + 1, k, none⟩) hqz).trans (hr k)
  have hqq : ∀ k, w1.cell? ⟨w.heap.size, k, none⟩ = #[.int .i64 2, .string ⟨#[]⟩, .slice none 0 0, .slice none 0 0, .bool false, .int .i64 0, .slice none 0 0, .slice (some ⟨b, off, none⟩) 3 c][k]? := fun k => (hf1.cell (p := ⟨w.heap.size, k, none⟩) (Nat.lt_of_succ_lt hqz)).trans (hq k)
  have r0 := hrr 0; have r1 := hrr 1; have r2 := hrr 2; have r3 := hrr 3; have r4 := hrr 4; have r5 := hrr 5
  have q0 := hqq 0; have q1 := hqq 1; have q2 := hqq 2; have q3 := hqq 3; have q4 := hqq 4; have q5 := hqq 5; have q6 := hqq 6; have q7 := hqq 7
  clear hq hr hrr hqq hf hf1 hqz
  go_wp2_with fail
  refine (HP.out w1 (fun w' hf' => permitted_E (B := B) b off c w' (H.out.keep ((hF1.trans hf').2.mono hB)) (Nat.le_trans hB (hF1.trans hf').2.size))).mono ?_
  rintro e w2 ⟨rfl, hf2⟩
  go_wp2_with fail
  go_ret2
  exact ⟨rfl, hF1.trans hf2⟩
set_option maxRecDepth 100000 in
set_option maxHeartbeats 2000000 in
theorem InRoot_E {B : Nat} (b off c : Nat) (w : World) (h : LimAt B w (some ⟨b, off, none⟩) exE) (hB : B ≤ w.heap.size) (hp : PartTy w) (hi : PartInt w) (hv : PartVal w) (hc : 3 ≤ c) :
    Calls Tryz.prog 16 #[.agg #[.int .i64 2, .string ⟨#[]⟩, .slice none 0 0, .slice none 0 0, .bool false, .int .i64 0, .slice none 0 0, .slice (some ⟨b, off, none⟩) 3 c], .agg #[.int .i64 2, .int .i64 8, .int .i64 0, .string ⟨#[]⟩, .slice none 0 0, .slice none 0 0]] w fun e w' => e = .returned (.tuple #[.bool false, .int .i64 0]) ∧ Fr w.heap.size w w' := by
  have hf := ((Fr.self w).alloc (.cells #[.int .i64 2, .string ⟨#[]⟩, .slice none 0 0, .slice none 0 0, .bool false, .int .i64 0, .slice none 0 0, .slice (some ⟨b, off, none⟩) 3 c] 45)).alloc (.cells #[.int .i64 2, .int .i64 8, .int .i64 0, .string ⟨#[]⟩, .slice none 0 0, .slice none 0 0] 50)
  have hq : ∀ k, ((w.alloc (.cells #[.int .i64 2, .string ⟨#[]⟩, .slice none 0 0, .slice none 0 0, .bool false, .int .i64 0, .slice none 0 0, .slice (some ⟨b, off, none⟩) 3 c] 45)).alloc (.cells #[.int .i64 2, .int .i64 8, .int .i64 0, .string ⟨#[]⟩, .slice none 0 0, .slice none 0 0] 50)).cell? ⟨w.heap.size, k, none⟩ = #[.int .i64 2, .string ⟨#[]⟩, .slice none 0 0, .slice none 0 0, .bool false, .int .i64 0, .slice none 0 0, .slice (some ⟨b, off, none⟩) 3 c][k]? := fun k => (World.cell?_alloc_lt _ _ _ (by simp)).trans (cell_new w _ _ k)
  have hz7 : ((w.alloc (.cells #[.int .i64 2, .string ⟨#[]⟩, .slice none 0 0, .slice none 0 0, .bool false, .int .i64 0, .slice none 0 0, .slice (some ⟨b, off, none⟩) 3 c] 45)).alloc (.cells #[.int .i64 2, .int .i64 8, .int .i64 0, .string ⟨#[]⟩, .slice none 0 0, .slice none 0 0] 50)).frozen? ⟨w.heap.size, 7, none⟩ = false := (((Fr.self (w.alloc (.cells #[.int .i64 2, .string ⟨#[]⟩, .slice none 0 0, .slice none 0 0, .bool false, .int .i64 0, .slice none 0 0, .slice (some ⟨b, off, none⟩) 3 c] 45))).alloc _).frozen (p := ⟨w.heap.size, 7, none⟩) (by simp)).trans (frozen_new w _ _ 7)
  have hr : ∀ k, ((w.alloc (.cells #[.int .i64 2, .string ⟨#[]⟩, .slice none 0 0, .slice none 0 0, .bool false, .int .i64 0, .slice none 0 0, .slice (some ⟨b, off, none⟩) 3 c] 45)).alloc (.cells #[.int .i64 2, .int .i64 8, .int .i64 0, .string ⟨#[]⟩, .slice none 0 0, .slice none 0 0] 50)).cell? ⟨w.heap.size + 1, k, none⟩ = #[.int .i64 2, .int .i64 8, .int .i64 0, .string ⟨#[]⟩, .slice none 0 0, .slice none 0 0][k]? := fun k => by
    have := cell_new (w.alloc (.cells #[.int .i64 2, .string ⟨#[]⟩, .slice none 0 0, .slice none 0 0, .bool false, .int .i64 0, .slice none 0 0, .slice (some ⟨b, off, none⟩) 3 c] 45)) #[.int .i64 2, .int .i64 8, .int .i64 0, .string ⟨#[]⟩, .slice none 0 0, .slice none 0 0] 50 k
    rwa [World.size_alloc] at this
  have hqz : w.heap.size + 1 < ((w.alloc (.cells #[.int .i64 2, .string ⟨#[]⟩, .slice none 0 0, .slice none 0 0, .bool false, .int .i64 0, .slice none 0 0, .slice (some ⟨b, off, none⟩) 3 c] 45)).alloc (.cells #[.int .i64 2, .int .i64 8, .int .i64 0, .string ⟨#[]⟩, .slice none 0 0, .slice none 0 0] 50)).heap.size := by simp
  have He := Lib.hid (fun w h hB hp hi hv => valueError_E (B := B) b off c 8 w h hB hp hi hv (by omega))
  have hb : inB [⟨1, 5⟩] 8 = false := by decide
  have HP := Lib.hid (fun w hP => hb ▸ isPermitted_of (.slice (some ⟨b, off, none⟩) 1 c) [⟨1, 5⟩] 8 w (by simp) hP)
  have Hro := Lib.hid (fun w h => rootOf_E (B := B) b off c w h hc)
  have H := Lib.hid h; have Hp := Lib.hid hp; have Hi := Lib.hid hi; have Hv := Lib.hid hv
  clear h hp hi hv hb
  go_enter Tryz.func16, Tryz.ntmps16
  go_wp2_with fail
  generalize (w.alloc (.cells #[.int .i64 2, .string ⟨#[]⟩, .slice none 0 0, .slice none 0 0, .bool false, .int .i64 0, .slice none 0 0, .slice (some ⟨b, off, none⟩) 3 c] 45)).alloc (.cells #[.int .i64 2, .int .i64 8, .int .i64 0, .string ⟨#[]⟩, .slice none 0 0, .slice none 0 0] 50) = W at *
  refine (He.out _ (H.out.keep (hf.2.mono hB)) (Nat.le_trans hB hf.2.size) (Hp.out.keep hf.2) (Hi.out.keep hf.2) (Hv.out.keep hf.2)).mono ?_
  rintro e w1 ⟨rfl, hf1⟩
  have hF1 : Fr w.heap.size w w1 := hf.trans hf1
  have hrr : ∀ k, w1.cell? ⟨w.heap.size + 1, k, none⟩ = #[.int .i64 2, .int .i64 8, .int .i64 0, .string ⟨#[]⟩, .slice none 0 0, .slice none 0 0][k]? := fun k => (hf1.cell (p := ⟨w.heap.size + 1, k, none⟩) hqz).trans (hr k)
  have hqq : ∀ k, w1.cell? ⟨w.heap.size, k, none⟩ = #[.int .i64 2, .string ⟨#[]⟩, .slice none 0 0, .slice none 0 0, .bool false, .int .i64 0, .slice none 0 0, .slice (some ⟨b, off, none⟩) 3 c][k]? := fun k => (hf1.cell (p := ⟨w.heap.size, k, none⟩) (Nat.lt_of_succ_lt hqz)).trans (hq k)
  have hz7' : w1.frozen? ⟨w.heap.size, 7, none⟩ = false := (hf1.frozen (p := ⟨w.heap.size, 7, none⟩) (Nat.lt_of_succ_lt hqz)).trans hz7
  have r0 := hrr 0; have r1 := hrr 1; have r2 := hrr 2; have r3 := hrr 3; have r4 := hrr 4; have r5 := hrr 5
  have q0 := hqq 0; have q1 := hqq 1; have q2 := hqq 2; have q3 := hqq 3; have q4 := hqq 4; have q5 := hqq 5; have q6 := hqq 6; have q7 := hqq 7
  clear hq hr hrr hqq hf hf1 hqz hz7
  go_wp2_with fail
  refine (Hro.out _ (H.out.keep (hF1.2.mono hB))).mono ?_
  rintro e w' ⟨rfl, rfl⟩
  go_wp2_with fail
  have hF2 : Fr w.heap.size w (w1.setCell ⟨w.heap.size, 7, none⟩ (.slice (some ⟨b, off, none⟩) 1 c)) := hF1.setCell (Nat.le_refl _) _
  refine (HP.out _ (fun w' hf' => permitted_R (B := B) b off c w' (H.out.keep ((hF2.trans hf').2.mono hB)) (Nat.le_trans hB (hF2.trans hf').2.size))).mono ?_
  rintro e w2 ⟨rfl, hf2⟩
  go_wp2_with fail
  go_ret2
  exact ⟨rfl, hF2.trans hf2⟩
/-- What a cell holds, if it holds something. -/
def cellAt (w : World) (a : Addr) : Value := (w.cell? a).getD undef
theorem cellAt_of {w : World} {a : Addr} {v : Value} (h : w.cell? a = some v) : w.cell? a = some (cellAt w a) := by unfold cellAt; rw [h]; rfl
theorem cellAt_keep {w w' : World} {a : Addr} (h : w'.cell? a = w.cell? a) (h2 : w.cell? a = some (cellAt w a)) : w'.cell? a = some (cellAt w' a) := cellAt_of (h.trans h2)
theorem cellAt_drew {w : World} {a : Addr} (h : w.cell? a = some (cellAt w a)) : w.drew.cell? a = some (cellAt w.drew a) := h
set_option maxRecDepth 100000 in
set_option maxHeartbeats 4000000 in
theorem RangeOf_E {B : Nat} (b off c : Nat) (w : World) (h : LimAt B w (some ⟨b, off, none⟩) exE) (hB : B ≤ w.heap.size) (hp : PartTy w) (hc : 3 ≤ c) :
    Calls Tryz.prog 17 #[.agg #[.int .i64 2, .string ⟨#[]⟩, .slice none 0 0, .slice none 0 0, .bool false, .int .i64 0, .slice none 0 0, .slice (some ⟨b, off, none⟩) 3 c]] w fun e w' => e = .returned (.tuple #[.agg #[.int .i64 1, .int .i64 5], .bool true, .int .i64 0]) ∧ Fr w.heap.size w w' := by
  have hf := ((Fr.self w).alloc (.cells #[.int .i64 2, .string ⟨#[]⟩, .slice none 0 0, .slice none 0 0, .bool false, .int .i64 0, .slice none 0 0, .slice (some ⟨b, off, none⟩) 3 c] 45)).alloc (.cells #[.int .i64 0, .int .i64 0] 53)
  have hq : ∀ k, ((w.alloc (.cells #[.int .i64 2, .string ⟨#[]⟩, .slice none 0 0, .slice none 0 0, .bool false, .int .i64 0, .slice none 0 0, .slice (some ⟨b, off, none⟩) 3 c] 45)).alloc (.cells #[.int .i64 0, .int .i64 0] 53)).cell? ⟨w.heap.size, k, none⟩ = #[.int .i64 2, .string ⟨#[]⟩, .slice none 0 0, .slice none 0 0, .bool false, .int .i64 0, .slice none 0 0, .slice (some ⟨b, off, none⟩) 3 c][k]? := fun k => (World.cell?_alloc_lt _ _ _ (by simp)).trans (cell_new w _ _ k)
  have hr : ∀ k, ((w.alloc (.cells #[.int .i64 2, .string ⟨#[]⟩, .slice none 0 0, .slice none 0 0, .bool false, .int .i64 0, .slice none 0 0, .slice (some ⟨b, off, none⟩) 3 c] 45)).alloc (.cells #[.int .i64 0, .int .i64 0] 53)).cell? ⟨w.heap.size + 1, k, none⟩ = #[.int .i64 0, .int .i64 0][k]? := fun k => by
    have := cell_new (w.alloc (.cells #[.int .i64 2, .string ⟨#[]⟩, .slice none 0 0, .slice none 0 0, .bool false, .int .i64 0, .slice none 0 0, .slice (some ⟨b, off, none⟩) 3 c] 45)) #[.int .i64 0, .int .i64 0] 53 k
    rwa [World.size_alloc] at this
  have hrz : ∀ k, ((w.alloc (.cells #[.int .i64 2, .string ⟨#[]⟩, .slice none 0 0, .slice none 0 0, .bool false, .int .i64 0, .slice none 0 0, .slice (some ⟨b, off, none⟩) 3 c] 45)).alloc (.cells #[.int .i64 0, .int .i64 0] 53)).frozen? ⟨w.heap.size + 1, k, none⟩ = false := fun k => by
    have := frozen_new (w.alloc (.cells #[.int .i64 2, .string ⟨#[]⟩, .slice none 0 0, .slice none 0 0, .bool false, .int .i64 0, .slice none 0 0, .slice (some ⟨b, off, none⟩) 3 c] 45)) #[.int .i64 0, .int .i64 0] 53 k
    rwa [World.size_alloc] at this
  have hqz : w.heap.size + 1 < ((w.alloc (.cells #[.int .i64 2, .string ⟨#[]⟩, .slice none 0 0, .slice none 0 0, .bool false, .int .i64 0, .slice none 0 0, .slice (some ⟨b, off, none⟩) 3 c] 45)).alloc (.cells #[.int .i64 0, .int .i64 0] 53)).heap.size := by simp
  have Ht := Lib.hid (fun w h hB hp => typeError_E (B := B) b off c w h hB hp)
  have Hro := Lib.hid (fun w h => rootOf_E (B := B) b off c w h hc)
  have Hop := Lib.hid (fun w h => isOpen_E (B := B) b off c w h)
  have Hpn := Lib.hid (fun w h hB => permitted_R (B := B) b off c w h hB)
  have H := Lib.hid h; have Hp := Lib.hid hp
  clear h hp
  go_enter Tryz.func17, Tryz.ntmps17
  go_wp2_with fail
  generalize (w.alloc (.cells #[.int .i64 2, .string ⟨#[]⟩, .slice none 0 0, .slice none 0 0, .bool false, .int .i64 0, .slice none 0 0, .slice (some ⟨b, off, none⟩) 3 c] 45)).alloc (.cells #[.int .i64 0, .int .i64 0] 53) = W at *
  refine (Ht.out _ (H.out.keep (hf.2.mono hB)) (Nat.le_trans hB hf.2.size) (Hp.out.keep hf.2)).mono ?_
  rintro e w1 ⟨rfl, hf1⟩
  have hF1 : Fr w.heap.size w w1 := hf.trans hf1
  have hqq : ∀ k, w1.cell? ⟨w.heap.size, k, none⟩ = #[.int .i64 2, .string ⟨#[]⟩, .slice none 0 0, .slice none 0 0, .bool false, .int .i64 0, .slice none 0 0, .slice (some ⟨b, off, none⟩) 3 c][k]? := fun k => (hf1.cell (p := ⟨w.heap.size, k, none⟩) (Nat.lt_of_succ_lt hqz)).trans (hq k)
  have r0 := (hf1.cell (p := ⟨w.heap.size + 1, 0, none⟩) hqz).trans (hr 0)
  have r1 := (hf1.cell (p := ⟨w.heap.size + 1, 1, none⟩) hqz).trans (hr 1)
  have z0 := (hf1.frozen (p := ⟨w.heap.size + 1, 0, none⟩) hqz).trans (hrz 0)
  have z1 := (hf1.frozen (p := ⟨w.heap.size + 1, 1, none⟩) hqz).trans (hrz 1)
  have q0 := hqq 0; have q1 := hqq 1; have q2 := hqq 2; have q3 := hqq 3; have q4 := hqq 4; have q5 := hqq 5; have q6 := hqq 6; have q7 := hqq 7
  have hz1 : w.heap.size + 1 < w1.heap.size := cell_block r0
  clear hq hr hrz hqq hf hf1 hqz
  have hz0 : w.heap.size < w1.heap.size := Nat.lt_of_succ_lt hz1
  have q7' : (w1.alloc (.cells #[.int .i64 2, .string ⟨#[]⟩, .slice none 0 0, .slice none 0 0, .bool false, .int .i64 0, .slice none 0 0, .slice (some ⟨b, off, none⟩) 3 c] 45)).cell? ⟨w.heap.size, 7, none⟩ = some (.slice (some ⟨b, off, none⟩) 3 c) := (World.cell?_alloc_lt _ _ _ hz0).trans q7
  go_wp2_with (go_at_call 25; refine (Hro.out _ (H.out.keep ((hF1.alloc _).2.mono hB))).mono ?_; rintro e w' ⟨rfl, rfl⟩)
  have hF3 : Fr w.heap.size w (w1.alloc (.cells #[.int .i64 2, .string ⟨#[]⟩, .slice none 0 0, .slice none 0 0, .bool false, .int .i64 0, .slice none 0 0, .slice (some ⟨b, off, none⟩) 1 c] 45)) := hF1.alloc _
  have hold : ∀ (a k : Nat), a < w1.heap.size → (w1.alloc (.cells #[.int .i64 2, .string ⟨#[]⟩, .slice none 0 0, .slice none 0 0, .bool false, .int .i64 0, .slice none 0 0, .slice (some ⟨b, off, none⟩) 1 c] 45)).cell? ⟨a, k, none⟩ = w1.cell? ⟨a, k, none⟩ := fun a k ha => World.cell?_alloc_lt _ _ _ ha
  have hfz : ∀ (a k : Nat), a < w1.heap.size → (w1.alloc (.cells #[.int .i64 2, .string ⟨#[]⟩, .slice none 0 0, .slice none 0 0, .bool false, .int .i64 0, .slice none 0 0, .slice (some ⟨b, off, none⟩) 1 c] 45)).frozen? ⟨a, k, none⟩ = w1.frozen? ⟨a, k, none⟩ := fun a k ha => ((Fr.self w1).alloc _).frozen (p := ⟨a, k, none⟩) ha
  have hnew : ∀ k, (w1.alloc (.cells #[.int .i64 2, .string ⟨#[]⟩, .slice none 0 0, .slice none 0 0, .bool false, .int .i64 0, .slice none 0 0, .slice (some ⟨b, off, none⟩) 1 c] 45)).cell? ⟨w1.heap.size, k, none⟩ = #[.int .i64 2, .string ⟨#[]⟩, .slice none 0 0, .slice none 0 0, .bool false, .int .i64 0, .slice none 0 0, .slice (some ⟨b, off, none⟩) 1 c][k]? := fun k => cell_new w1 _ _ k
  generalize w1.alloc (.cells #[.int .i64 2, .string ⟨#[]⟩, .slice none 0 0, .slice none 0 0, .bool false, .int .i64 0, .slice none 0 0, .slice (some ⟨b, off, none⟩) 1 c] 45) = W3 at *
  have p7 := (hold w.heap.size 7 hz0).trans q7
  have p0 := (hold (w.heap.size + 1) 0 hz1).trans r0
  have p1 := (hold (w.heap.size + 1) 1 hz1).trans r1
  have y0 := (hfz (w.heap.size + 1) 0 hz1).trans z0
  have y1 := (hfz (w.heap.size + 1) 1 hz1).trans z1
  have n0 := hnew 0; have n1 := hnew 1; have n2 := hnew 2; have n3 := hnew 3; have n4 := hnew 4; have n5 := hnew 5; have n6 := hnew 6; have n7 := hnew 7
  have hzW : w1.heap.size < W3.heap.size := cell_block n7
  have i0 : W3.cell? ⟨w.heap.size + 1, 0, none⟩ = some (cellAt W3 ⟨w.heap.size + 1, 0, none⟩) := cellAt_of p0
  have i1 : W3.cell? ⟨w.heap.size + 1, 1, none⟩ = some (cellAt W3 ⟨w.heap.size + 1, 1, none⟩) := cellAt_of p1
  clear hold hfz hnew q0 q1 q2 q3 q4 q5 q6 q7 q7' r0 r1 z0 z1 p0 p1 hF1
  have Hef := Lib.hid (fun (A : Option Addr) (cn : Nat) w h => effective_one 1 5 A cn w h)
  go_region_held3 (fun w' => Fr w.heap.size w w' ∧ w1.heap.size < w'.heap.size ∧ w.heap.size + 1 < w1.heap.size ∧ w'.cell? ⟨w.heap.size, 7, none⟩ = some (.slice (some ⟨b, off, none⟩) 3 c) ∧ w'.frozen? ⟨w.heap.size + 1, 0, none⟩ = false ∧ w'.frozen? ⟨w.heap.size + 1, 1, none⟩ = false ∧ w'.cell? ⟨w.heap.size + 1, 0, none⟩ = some (cellAt w' ⟨w.heap.size + 1, 0, none⟩) ∧ w'.cell? ⟨w.heap.size + 1, 1, none⟩ = some (cellAt w' ⟨w.heap.size + 1, 1, none⟩) ∧ w'.cell? ⟨w1.heap.size, 0, none⟩ = some (.int .i64 2) ∧ w'.cell? ⟨w1.heap.size, 1, none⟩ = some (.string ⟨#[]⟩) ∧ w'.cell? ⟨w1.heap.size, 2, none⟩ = some (.slice none 0 0) ∧ w'.cell? ⟨w1.heap.size, 3, none⟩ = some (.slice none 0 0) ∧ w'.cell? ⟨w1.heap.size, 4, none⟩ = some (.bool false) ∧ w'.cell? ⟨w1.heap.size, 5, none⟩ = some (.int .i64 0) ∧ w'.cell? ⟨w1.heap.size, 6, none⟩ = some (.slice none 0 0) ∧ w'.cell? ⟨w1.heap.size, 7, none⟩ = some (.slice (some ⟨b, off, none⟩) 1 c))
    (first
      | assumption
      | (go_split_ands; exact ⟨Fr.trans (by assumption) hf5, Nat.lt_of_lt_of_le (by assumption) hf5.2.size, hz1, (hf5.cell (p := ⟨w.heap.size, 7, none⟩) (by first | assumption | exact Nat.lt_trans hz1 (by assumption) | exact Nat.lt_trans hz0 (by assumption))).trans (by assumption), (hf5.frozen (p := ⟨w.heap.size + 1, 0, none⟩) (by first | assumption | exact Nat.lt_trans hz1 (by assumption) | exact Nat.lt_trans hz0 (by assumption))).trans (by assumption), (hf5.frozen (p := ⟨w.heap.size + 1, 1, none⟩) (by first | assumption | exact Nat.lt_trans hz1 (by assumption) | exact Nat.lt_trans hz0 (by assumption))).trans (by assumption), cellAt_keep (hf5.cell (p := ⟨w.heap.size + 1, 0, none⟩) (by first | assumption | exact Nat.lt_trans hz1 (by assumption) | exact Nat.lt_trans hz0 (by assumption))) (by assumption), cellAt_keep (hf5.cell (p := ⟨w.heap.size + 1, 1, none⟩) (by first | assumption | exact Nat.lt_trans hz1 (by assumption) | exact Nat.lt_trans hz0 (by assumption))) (by assumption), (hf5.cell (p := ⟨w1.heap.size, 0, none⟩) (by first | assumption | exact Nat.lt_trans hz1 (by assumption) | exact Nat.lt_trans hz0 (by assumption))).trans (by assumption), (hf5.cell (p := ⟨w1.heap.size, 1, none⟩) (by first | assumption | exact Nat.lt_trans hz1 (by assumption) | exact Nat.lt_trans hz0 (by assumption))).trans (by assumption), (hf5.cell (p := ⟨w1.heap.size, 2, none⟩) (by first | assumption | exact Nat.lt_trans hz1 (by assumption) | exact Nat.lt_trans hz0 (by assumption))).trans (by assumption), (hf5.cell (p := ⟨w1.heap.size, 3, none⟩) (by first | assumption | exact Nat.lt_trans hz1 (by assumption) | exact Nat.lt_trans hz0 (by assumption))).trans (by assumption), (hf5.cell (p := ⟨w1.heap.size, 4, none⟩) (by first | assumption | exact Nat.lt_trans hz1 (by assumption) | exact Nat.lt_trans hz0 (by assumption))).trans (by assumption), (hf5.cell (p := ⟨w1.heap.size, 5, none⟩) (by first | assumption | exact Nat.lt_trans hz1 (by assumption) | exact Nat.lt_trans hz0 (by assumption))).trans (by assumption), (hf5.cell (p := ⟨w1.heap.size, 6, none⟩) (by first | assumption | exact Nat.lt_trans hz1 (by assumption) | exact Nat.lt_trans hz0 (by assumption))).trans (by assumption), (hf5.cell (p := ⟨w1.heap.size, 7, none⟩) (by first | assumption | exact Nat.lt_trans hz1 (by assumption) | exact Nat.lt_trans hz0 (by assumption))).trans (by assumption)⟩)
      | (go_split_ands; exact ⟨Fr.trans (by assumption) hf7, Nat.lt_of_lt_of_le (by assumption) hf7.2.size, hz1, (hf7.cell (p := ⟨w.heap.size, 7, none⟩) (by first | assumption | exact Nat.lt_trans hz1 (by assumption) | exact Nat.lt_trans hz0 (by assumption))).trans (by assumption), (hf7.frozen (p := ⟨w.heap.size + 1, 0, none⟩) (by first | assumption | exact Nat.lt_trans hz1 (by assumption) | exact Nat.lt_trans hz0 (by assumption))).trans (by assumption), (hf7.frozen (p := ⟨w.heap.size + 1, 1, none⟩) (by first | assumption | exact Nat.lt_trans hz1 (by assumption) | exact Nat.lt_trans hz0 (by assumption))).trans (by assumption), cellAt_keep (hf7.cell (p := ⟨w.heap.size + 1, 0, none⟩) (by first | assumption | exact Nat.lt_trans hz1 (by assumption) | exact Nat.lt_trans hz0 (by assumption))) (by assumption), cellAt_keep (hf7.cell (p := ⟨w.heap.size + 1, 1, none⟩) (by first | assumption | exact Nat.lt_trans hz1 (by assumption) | exact Nat.lt_trans hz0 (by assumption))) (by assumption), (hf7.cell (p := ⟨w1.heap.size, 0, none⟩) (by first | assumption | exact Nat.lt_trans hz1 (by assumption) | exact Nat.lt_trans hz0 (by assumption))).trans (by assumption), (hf7.cell (p := ⟨w1.heap.size, 1, none⟩) (by first | assumption | exact Nat.lt_trans hz1 (by assumption) | exact Nat.lt_trans hz0 (by assumption))).trans (by assumption), (hf7.cell (p := ⟨w1.heap.size, 2, none⟩) (by first | assumption | exact Nat.lt_trans hz1 (by assumption) | exact Nat.lt_trans hz0 (by assumption))).trans (by assumption), (hf7.cell (p := ⟨w1.heap.size, 3, none⟩) (by first | assumption | exact Nat.lt_trans hz1 (by assumption) | exact Nat.lt_trans hz0 (by assumption))).trans (by assumption), (hf7.cell (p := ⟨w1.heap.size, 4, none⟩) (by first | assumption | exact Nat.lt_trans hz1 (by assumption) | exact Nat.lt_trans hz0 (by assumption))).trans (by assumption), (hf7.cell (p := ⟨w1.heap.size, 5, none⟩) (by first | assumption | exact Nat.lt_trans hz1 (by assumption) | exact Nat.lt_trans hz0 (by assumption))).trans (by assumption), (hf7.cell (p := ⟨w1.heap.size, 6, none⟩) (by first | assumption | exact Nat.lt_trans hz1 (by assumption) | exact Nat.lt_trans hz0 (by assumption))).trans (by assumption), (hf7.cell (p := ⟨w1.heap.size, 7, none⟩) (by first | assumption | exact Nat.lt_trans hz1 (by assumption) | exact Nat.lt_trans hz0 (by assumption))).trans (by assumption)⟩)
      | (go_split_ands; exact ⟨hF3.drew, hzW, hz1, p7, y0, y1, i0, i1, n0, n1, n2, n3, n4, n5, n6, n7⟩)
      | (go_split_ands; exact ⟨Fr.setCell (Fr.setCell (by assumption) (Nat.le_succ _) _) (Nat.le_succ _) _, (by simpa using (by assumption)), hz1, (World.cell?_setCell_other _ _ _ _ (by intro e1; injection e1 with e2; omega)).trans ((World.cell?_setCell_other _ _ _ _ (by intro e1; injection e1 with e2; omega)).trans (by assumption)), (World.frozen?_setCell _ _ _ _).trans ((World.frozen?_setCell _ _ _ _).trans (by assumption)), (World.frozen?_setCell _ _ _ _).trans ((World.frozen?_setCell _ _ _ _).trans (by assumption)), cellAt_of ((World.cell?_setCell_other _ _ _ _ (by simp)).trans (World.cell?_setCell_same _ _ _ (by assumption))), cellAt_of (World.cell?_setCell_same _ _ _ ((World.cell?_setCell_other _ _ _ _ (by simp)).trans (by assumption))), (World.cell?_setCell_other _ _ _ _ (by intro e1; injection e1 with e2; omega)).trans ((World.cell?_setCell_other _ _ _ _ (by intro e1; injection e1 with e2; omega)).trans (by assumption)), (World.cell?_setCell_other _ _ _ _ (by intro e1; injection e1 with e2; omega)).trans ((World.cell?_setCell_other _ _ _ _ (by intro e1; injection e1 with e2; omega)).trans (by assumption)), (World.cell?_setCell_other _ _ _ _ (by intro e1; injection e1 with e2; omega)).trans ((World.cell?_setCell_other _ _ _ _ (by intro e1; injection e1 with e2; omega)).trans (by assumption)), (World.cell?_setCell_other _ _ _ _ (by intro e1; injection e1 with e2; omega)).trans ((World.cell?_setCell_other _ _ _ _ (by intro e1; injection e1 with e2; omega)).trans (by assumption)), (World.cell?_setCell_other _ _ _ _ (by intro e1; injection e1 with e2; omega)).trans ((World.cell?_setCell_other _ _ _ _ (by intro e1; injection e1 with e2; omega)).trans (by assumption)), (World.cell?_setCell_other _ _ _ _ (by intro e1; injection e1 with e2; omega)).trans ((World.cell?_setCell_other _ _ _ _ (by intro e1; injection e1 with e2; omega)).trans (by assumption)), (World.cell?_setCell_other _ _ _ _ (by intro e1; injection e1 with e2; omega)).trans ((World.cell?_setCell_other _ _ _ _ (by intro e1; injection e1 with e2; omega)).trans (by assumption)), (World.cell?_setCell_other _ _ _ _ (by intro e1; injection e1 with e2; omega)).trans ((World.cell?_setCell_other _ _ _ _ (by intro e1; injection e1 with e2; omega)).trans (by assumption))⟩)
      | (go_split_ands; assumption))
    (first
      | (go_at_call 28; refine (Hpn.out _ (H.out.keep ((show Fr w.heap.size w _ by go_split_ands; assumption).2.mono hB)) (Nat.le_trans hB (show Fr w.heap.size w _ by go_split_ands; assumption).2.size)).mono ?_; rintro e w5 ⟨A, cn, rfl, hsp, hf5⟩)
      | (go_at_call 29; refine (Hop.out _ (H.out.keep ((show Fr w.heap.size w _ by go_split_ands; assumption).2.mono hB))).mono ?_; rintro e w6 ⟨rfl, rfl⟩)
      | (go_at_call 27; refine (Hef.out _ _ _ hsp).mono ?_; rintro e w7 ⟨rfl, hf7⟩))
  all_goals
    rename_i hHeld
    have hF := hHeld.1
    have hz5 : w.heap.size + 1 < W3.drew.heap.size := Nat.lt_trans hz1 hzW
    have g0 := (hf7.cell (p := ⟨w.heap.size + 1, 0, none⟩) (Nat.lt_of_lt_of_le hz5 hf5.2.size)).trans ((hf5.cell (p := ⟨w.heap.size + 1, 0, none⟩) hz5).trans i0)
    have g1 := (hf7.cell (p := ⟨w.heap.size + 1, 1, none⟩) (Nat.lt_of_lt_of_le hz5 hf5.2.size)).trans ((hf5.cell (p := ⟨w.heap.size + 1, 1, none⟩) hz5).trans i1)
    have m0 := (World.cell?_setCell_other (w7.setCell ⟨w.heap.size + 1, 0, none⟩ (.int .i64 1)) ⟨w.heap.size + 1, 1, none⟩ ⟨w.heap.size + 1, 0, none⟩ (.int .i64 5) (by simp)).trans (World.cell?_setCell_same w7 _ (.int .i64 1) g0)
    have m1 := World.cell?_setCell_same (w7.setCell ⟨w.heap.size + 1, 0, none⟩ (.int .i64 1)) ⟨w.heap.size + 1, 1, none⟩ (.int .i64 5) ((World.cell?_setCell_other _ ⟨w.heap.size + 1, 0, none⟩ ⟨w.heap.size + 1, 1, none⟩ _ (by simp)).trans g1)
    clear hHeld g0 g1 hf5 hf7
    generalize (w7.setCell ⟨w.heap.size + 1, 0, none⟩ (.int .i64 1)).setCell ⟨w.heap.size + 1, 1, none⟩ (.int .i64 5) = W9 at *
    go_wp2_with fail
    exact bodyPost_ret (v := .tuple #[.agg #[.int .i64 1, .int .i64 5], .bool true, .int .i64 0]) (by simp [results, Tryz.results17, go_sem, m0, m1]) rfl ⟨rfl, hF⟩
end Go.Proofs.YtoelifebmhlokaaGreatDoor
