/- The contract on Tiny. -/
import Derived.Test.YtgdedcdjfljcnaaGreatDoorM29
namespace Go.Proofs.YtgdedcdjfljcnaaGreatDoor
open Go.RowKit

def tinyB (x : TyT) : Bool := !(szTy x 12 (400, false)).2 && narrowT x
set_option maxRecDepth 100000 in
theorem tiny_any (x : TyT) (w : World) (cs : List Value) (hrep : RepTy w.heap.size w x cs) :
    Calls Tryz.prog 5 #[.agg cs.toArray] w fun e w' => e = .returned (.bool (tinyB x)) ∧ Fr w.heap.size w w' := by
  have hf := Fr.self w
  obtain ⟨fk, fs, P1, n1, e1, P2, n2, e2, fo, fr, P3, n3, e3, P4, n4, e4, rfl⟩ := hrep.shape
  have hf1 := hf.alloc (.cells #[.int .i64 fk, .string fs, .slice P1 n1 e1, .slice P2 n2 e2, .bool fo, .int .i64 fr, .slice P3 n3 e3, .slice P4 n4 e4] 28)
  have hsz := szIs_new (w.alloc (.cells #[.int .i64 fk, .string fs, .slice P1 n1 e1, .slice P2 n2 e2, .bool fo, .int .i64 fr, .slice P3 n3 e3, .slice P4 n4 e4] 28)) 400
  rw [World.size_alloc] at hsz
  have hf2 := hf1.alloc (.cells #[.int .i64 400, .bool false] 60)
  have hst := sizerType_any hrep _ (w.heap.size + 1) 400 12 hf2.2 (by simp <;> omega) (Nat.le_succ _) hsz (by omega) (by omega) (by omega) (by omega)
  have Hst := Lib.hid hst
  have Hna := Lib.hid (fun w' h1 h2 => narrow_any hrep w' h1 h2)
  have hc : ∀ j, ((w.alloc (.cells #[.int .i64 fk, .string fs, .slice P1 n1 e1, .slice P2 n2 e2, .bool fo, .int .i64 fr, .slice P3 n3 e3, .slice P4 n4 e4] 28)).alloc (.cells #[.int .i64 400, .bool false] 60)).cell? ⟨w.heap.size, j, none⟩ = #[.int .i64 fk, .string fs, .slice P1 n1 e1, .slice P2 n2 e2, .bool fo, .int .i64 fr, .slice P3 n3 e3, .slice P4 n4 e4][j]? := fun j => (World.cell?_alloc_lt _ _ _ (by simp)).trans (cell_new w _ _ j)
  have hfv : tinyB x = (!(szTy x 12 (400, false)).2 && narrowT x) := rfl
  have Hfv := Lib.hid hfv
  have hW : ((w.alloc (.cells #[.int .i64 fk, .string fs, .slice P1 n1 e1, .slice P2 n2 e2, .bool fo, .int .i64 fr, .slice P3 n3 e3, .slice P4 n4 e4] 28)).alloc (.cells #[.int .i64 400, .bool false] 60)).heap.size = w.heap.size + 1 + 1 := by simp
  generalize tinyB x = r at *
  generalize szTy x 12 (400, false) = q at *
  generalize narrowT x = nb at *
  obtain ⟨q1, q2⟩ := q
  clear hrep hfv hst hsz
  have Hc := Lib.hid hc; have Hf2 := Lib.hid hf2; have HW := Lib.hid hW
  clear hc hf1 hf2 hW
  go_enter Tryz.func5, Tryz.ntmps5
  go_wp2_with fail
  refine (Hst.out).mono ?_
  rintro e w1 ⟨rfl, hs1, hk1⟩
  obtain ⟨g0, g1, f0, f1⟩ := hs1.cells
  have hfw : Fr w.heap.size w w1 := ⟨hf.1, Hf2.out.2.trans (hk1.below (Nat.le_succ _) (by rw [HW.out]; omega))⟩
  cases q2 with
  | true =>
    go_wp2_with fail
    go_ret
    exact ⟨by rw [Hfv.out]; rfl, hfw⟩
  | false =>
    have hk : ∀ j, w1.cell? ⟨w.heap.size, j, none⟩ = #[.int .i64 fk, .string fs, .slice P1 n1 e1, .slice P2 n2 e2, .bool fo, .int .i64 fr, .slice P3 n3 e3, .slice P4 n4 e4][j]? := fun j => (hk1.cell (p := ⟨w.heap.size, j, none⟩) (by rw [HW.out]; show w.heap.size < _; omega) (by show w.heap.size ≠ _; omega)).trans (Hc.out j)
    have k0 := hk 0; have k1 := hk 1; have k2 := hk 2; have k3 := hk 3; have k4 := hk 4; have k5 := hk 5; have k6 := hk 6; have k7 := hk 7
    clear hk
    go_wp2_with fail
    refine (Hna.out _ hfw.2 hfw.2.size).mono ?_
    rintro e w2 ⟨rfl, hf3⟩
    go_wp2_with fail
    go_ret
    exact ⟨by rw [Hfv.out]; rfl, hfw.trans hf3⟩
end Go.Proofs.YtgdedcdjfljcnaaGreatDoor
