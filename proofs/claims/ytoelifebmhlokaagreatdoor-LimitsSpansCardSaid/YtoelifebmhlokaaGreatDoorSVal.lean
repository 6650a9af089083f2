/- Values of the example's type; effective. -/
import Derived.Test.YtoelifebmhlokaaGreatDoorSPerm
namespace Go.Proofs.YtoelifebmhlokaaGreatDoor
open Go.RowKit

/-- What the program's table says of the values of whole numbers. -/
def PartVal (w : World) : Prop := w.cell? ⟨0, 2, none⟩ = some (.int .i64 2)
theorem PartVal.keep {w w' : World} (h : PartVal w) (hf : Below w.heap.size w w') : PartVal w' := (hf.cell (p := ⟨_, 2, none⟩) (cell_block h)).trans h
set_option maxRecDepth 100000 in
set_option maxHeartbeats 2000000 in
theorem valueError_E {B : Nat} (b off c : Nat) (v : Int) (w : World) (h : LimAt B w (some ⟨b, off, none⟩) exE) (hB : B ≤ w.heap.size) (hp : PartTy w) (hi : PartInt w) (hv : PartVal w) (hn : -1152921504606846976 ≤ v ∧ v ≤ 1152921504606846976) :
    Calls Tryz.prog 23 #[.agg #[.int .i64 2, .string ⟨#[]⟩, .slice none 0 0, .slice none 0 0, .bool false, .int .i64 0, .slice none 0 0, .slice (some ⟨b, off, none⟩) 3 c], .agg #[.int .i64 2, .int .i64 v, .int .i64 0, .string ⟨#[]⟩, .slice none 0 0, .slice none 0 0]] w fun e w' => e = .returned (.int .i64 0) ∧ Fr w.heap.size w w' := by
  have hf := ((Fr.self w).alloc (.cells #[.int .i64 2, .string ⟨#[]⟩, .slice none 0 0, .slice none 0 0, .bool false, .int .i64 0, .slice none 0 0, .slice (some ⟨b, off, none⟩) 3 c] 45)).alloc (.cells #[.int .i64 2, .int .i64 v, .int .i64 0, .string ⟨#[]⟩, .slice none 0 0, .slice none 0 0] 50)
  have hq : ∀ k, ((w.alloc (.cells #[.int .i64 2, .string ⟨#[]⟩, .slice none 0 0, .slice none 0 0, .bool false, .int .i64 0, .slice none 0 0, .slice (some ⟨b, off, none⟩) 3 c] 45)).alloc (.cells #[.int .i64 2, .int .i64 v, .int .i64 0, .string ⟨#[]⟩, .slice none 0 0, .slice none 0 0] 50)).cell? ⟨w.heap.size, k, none⟩ = #[.int .i64 2, .string ⟨#[]⟩, .slice none 0 0, .slice none 0 0, .bool false, .int .i64 0, .slice none 0 0, .slice (some ⟨b, off, none⟩) 3 c][k]? := fun k => (World.cell?_alloc_lt _ _ _ (by simp)).trans (cell_new w _ _ k)
  have hr : ∀ k, ((w.alloc (.cells #[.int .i64 2, .string ⟨#[]⟩, .slice none 0 0, .slice none 0 0, .bool false, .int .i64 0, .slice none 0 0, .slice (some ⟨b, off, none⟩) 3 c] 45)).alloc (.cells #[.int .i64 2, .int .i64 v, .int .i64 0, .string ⟨#[]⟩, .slice none 0 0, .slice none 0 0] 50)).cell? ⟨w.heap.size + 1, k, none⟩ = #[.int .i64 2, .int .i64 v, .int .i64 0, .string ⟨#[]⟩, .slice none 0 0, .slice none 0 0][k]? := fun k => by
    have := cell_new (w.alloc (.cells #[.int .i64 2, .string ⟨#[]⟩, .slice none 0 0, .slice none 0 0, .bool false, .int .i64 0, .slice none 0 0, .slice (some ⟨b, off, none⟩) 3 c] 45)) #[.int .i64 2, .int .i64 v, .int .i64 0, .string ⟨#[]⟩, .slice none 0 0, .slice none 0 0] 50 k
    rwa [World.size_alloc] at this
  have hqz : w.heap.size + 1 < ((w.alloc (.cells #[.int .i64 2, .string ⟨#[]⟩, .slice none 0 0, .slice none 0 0, .bool false, .int .i64 0, .slice none 0 0, .slice (some ⟨b, off, none⟩) 3 c] 45)).alloc (.cells #[.int .i64 2, .int .i64 v, .int .i64 0, .string ⟨#[]⟩, .slice none 0 0, .slice none 0 0] 50)).heap.size := by simp
  have Ht := Lib.hid (fun w h hB hp => typeError_E (B := B) b off c w h hB hp)
  have Hf := Lib.hid (fun w hp => iv_form v hn w hp)
  have H := Lib.hid h; have Hp := Lib.hid hp; have Hi := Lib.hid hi; have Hv := Lib.hid hv
  clear h hp hi hv hn
  go_enter Tryz.func23, Tryz.ntmps23
  go_wp2_with fail
  generalize (w.alloc (.cells #[.int .i64 2, .string ⟨#[]⟩, .slice none 0 0, .slice none 0 0, .bool false, .int .i64 0, .slice none 0 0, .slice (some ⟨b, off, none⟩) 3 c] 45)).alloc (.cells #[.int .i64 2, .int .i64 v, .int .i64 0, .string ⟨#[]⟩, .slice none 0 0, .slice none 0 0] 50) = W at *
  refine (Ht.out _ (H.out.keep (hf.2.mono hB)) (Nat.le_trans hB hf.2.size) (Hp.out.keep hf.2)).mono ?_
  rintro e w1 ⟨rfl, hf1⟩
  have hF1 : Fr w.heap.size w w1 := hf.trans hf1
  have hrr : ∀ k, w1.cell? ⟨w.heap.size + 1, k, none⟩ = #[.int .i64 2, .int .i64 v, .int .i64 0, .string ⟨#[]⟩, .slice none 0 0, .slice none 0 0][k]? := fun k => (hf1.cell (p := ⟨w.heap.size + 1, k, none⟩) hqz).trans (hr k)
  have hq0 := (hf1.cell (p := ⟨w.heap.size, 0, none⟩) (Nat.lt_of_succ_lt hqz)).trans (hq 0)
  have r0 := hrr 0; have r1 := hrr 1; have r2 := hrr 2; have r3 := hrr 3; have r4 := hrr 4; have r5 := hrr 5
  have hz1 : w.heap.size + 1 < w1.heap.size := cell_block r0
  clear hq hr hrr hf hf1 hqz
  go_wp2_with fail
  refine (Hf.out _ (Hi.out.keep hF1.2)).mono ?_
  rintro e w2 ⟨rfl, hf2⟩
  have hF2 : Fr w.heap.size w w2 := hF1.trans hf2
  have hv2 : w2.cell? ⟨0, 2, none⟩ = some (.int .i64 2) := Hv.out.keep hF2.2
  have r0' := (hf2.cell (p := ⟨w.heap.size + 1, 0, none⟩) hz1).trans r0
  have q0' := (hf2.cell (p := ⟨w.heap.size, 0, none⟩) (Nat.lt_of_succ_lt hz1)).trans hq0
  clear r0 r1 r2 r3 r4 r5 hq0 hf2 hF1
  go_wp2_with fail
  go_quiet (fail)
  go_wp2_with fail
  go_ret
  exact ⟨rfl, hF2.drewN _⟩
theorem effective_one (lo hi : Int) (A : Option Addr) (cn : Nat) (w : World) (h : SpAt w.heap.size w A [⟨lo, hi⟩]) :
    Calls Tryz.prog 27 #[.slice A 1 cn, .bool true] w fun e w' => e = .returned (.tuple #[.agg #[.int .i64 lo, .int .i64 hi], .bool true, .int .i64 0]) ∧ Fr w.heap.size w w' := by
  obtain hh | ⟨g, o, rfl, hg, hc⟩ := h
  · simp at hh
  have c0 := hc 0 _ rfl
  have c1 := hc 1 _ rfl
  rw [Nat.add_zero] at c0
  have hf := (Fr.self w).alloc (.cells #[.int .i64 0, .int .i64 0] 53)
  clear hc
  go_enter Tryz.func27, Tryz.ntmps27
  go_wp2_with fail
  have k0 := cell_new w #[.int .i64 0, .int .i64 0] 53 0
  have k1 := cell_new w #[.int .i64 0, .int .i64 0] 53 1
  have z0 := frozen_new w #[.int .i64 0, .int .i64 0] 53 0
  have z1 := frozen_new w #[.int .i64 0, .int .i64 0] 53 1
  replace c0 := (World.cell?_alloc_lt w (.cells #[.int .i64 0, .int .i64 0] 53) ⟨g, o, none⟩ hg).trans c0
  replace c1 := (World.cell?_alloc_lt w (.cells #[.int .i64 0, .int .i64 0] 53) ⟨g, o + 1, none⟩ hg).trans c1
  generalize w.alloc (.cells #[.int .i64 0, .int .i64 0] 53) = W at *
  have hne : w.heap.size ≠ g := by omega
  go_region
  all_goals
    go_wp2_with fail
    exact bodyPost_ret (v := .tuple #[.agg #[.int .i64 lo, .int .i64 hi], .bool true, .int .i64 0]) (by simp [results, Tryz.results27, go_sem, *]) rfl ⟨rfl, (hf.drew.setCell (Nat.le_refl _) _).setCell (Nat.le_refl _) _⟩
end Go.Proofs.YtoelifebmhlokaaGreatDoor
