/- Contracts on the form of a type of whole numbers: CheckType. -/
import Derived.Test.YtgdedcdjfljcnaaGreatDoorM04
import Derived.Test.YtgdedcdjfljcnaaGreatDoorM10
namespace Go.Proofs.YtgdedcdjfljcnaaGreatDoor
open Go.RowKit

/-- What the program's table says of types of whole numbers: constraints alone. -/
def PartTy (w : World) : Prop := ∀ (j : Nat) (b : Bool), [false, true, false, false, false, false, false, false, false, false][j]? = some b → w.cell? ⟨1, 20 + j, none⟩ = some (.bool b)
theorem PartTy.lt {w : World} (h : PartTy w) : 1 < w.heap.size := cell_block (h 0 false rfl)
theorem PartTy.keep {w w' : World} (h : PartTy w) (hf : Below w.heap.size w w') : PartTy w' := fun j b hb => (hf.cell (p := ⟨_, 20 + j, none⟩) h.lt).trans (h j b hb)
theorem ty_many (L : Option Addr) (n c : Nat) (w : World) : Calls Tryz.prog 152 #[.agg #[.int .i64 2, .string ⟨#[]⟩, .slice none 0 0, .slice none 0 0, .bool false, .int .i64 0, .slice none 0 0, .slice L n c, .bool false, .bool true, .bool false, .bool false, .bool false, .bool false, .bool false, .bool false, .bool false, .bool false]] w fun e w' => e = .returned (.bool false) ∧ Fr w.heap.size w w' := by
  have hf := Fr.self w
  go_enter Tryz.func152, Tryz.ntmps152
  go_wp2_with fail
  go_ret
  exact ⟨rfl, by first | exact hf.alloc _ | exact (hf.alloc _).alloc _⟩
theorem ty_range (L : Option Addr) (n c : Nat) (w : World) : Calls Tryz.prog 153 #[.agg #[.int .i64 2, .string ⟨#[]⟩, .slice none 0 0, .slice none 0 0, .bool false, .int .i64 0, .slice none 0 0, .slice L n c, .bool false, .bool true, .bool false, .bool false, .bool false, .bool false, .bool false, .bool false, .bool false, .bool false]] w fun e w' => e = .returned (.bool false) ∧ Fr w.heap.size w w' := by
  have hf := Fr.self w
  go_enter Tryz.func153, Tryz.ntmps153
  go_wp2_with fail
  refine wp_loop_rounds 1 ?_
  rw [rounds_succ]
  go_wp2_with fail
  refine wp_loop_rounds 1 ?_
  rw [rounds_succ]
  go_wp2_with fail
  go_ret
  exact ⟨rfl, by first | exact hf.alloc _ | exact (hf.alloc _).alloc _⟩
theorem ty_root (L : Option Addr) (n c : Nat) (w : World) : Calls Tryz.prog 185 #[.agg #[.int .i64 2, .string ⟨#[]⟩, .slice none 0 0, .slice none 0 0, .bool false, .int .i64 0, .slice none 0 0, .slice L n c, .bool false, .bool true, .bool false, .bool false, .bool false, .bool false, .bool false, .bool false, .bool false, .bool false]] w fun e w' => e = .returned (.bool false) ∧ Fr w.heap.size w w' := by
  have hf := Fr.self w
  go_enter Tryz.func185, Tryz.ntmps185
  go_wp2_with fail
  go_ret
  exact ⟨rfl, by first | exact hf.alloc _ | exact (hf.alloc _).alloc _⟩
theorem ty_foreign (L : Option Addr) (n c : Nat) (w : World) : Calls Tryz.prog 154 #[.agg #[.int .i64 2, .string ⟨#[]⟩, .slice none 0 0, .slice none 0 0, .bool false, .int .i64 0, .slice none 0 0, .slice L n c, .bool false, .bool true, .bool false, .bool false, .bool false, .bool false, .bool false, .bool false, .bool false, .bool false]] w fun e w' => e = .returned (.bool false) ∧ Fr w.heap.size w w' := by
  have hf := (Fr.self w).alloc (.cells #[.int .i64 2, .string ⟨#[]⟩, .slice none 0 0, .slice none 0 0, .bool false, .int .i64 0, .slice none 0 0, .slice L n c, .bool false, .bool true, .bool false, .bool false, .bool false, .bool false, .bool false, .bool false, .bool false, .bool false] 175)
  have Hr := Lib.hid (ty_root L n c (w.alloc (.cells #[.int .i64 2, .string ⟨#[]⟩, .slice none 0 0, .slice none 0 0, .bool false, .int .i64 0, .slice none 0 0, .slice L n c, .bool false, .bool true, .bool false, .bool false, .bool false, .bool false, .bool false, .bool false, .bool false, .bool false] 175)))
  have c3 : (w.alloc (.cells #[.int .i64 2, .string ⟨#[]⟩, .slice none 0 0, .slice none 0 0, .bool false, .int .i64 0, .slice none 0 0, .slice L n c, .bool false, .bool true, .bool false, .bool false, .bool false, .bool false, .bool false, .bool false, .bool false, .bool false] 175)).cell? ⟨w.heap.size, 3, none⟩ = some (.slice none 0 0) := cell_new w _ _ 3
  go_enter Tryz.func154, Tryz.ntmps154
  go_wp2_with fail
  refine (Hr.out).mono ?_
  rintro e w1 ⟨rfl, hf1⟩
  have d3 : w1.cell? ⟨w.heap.size, 3, none⟩ = some (.slice none 0 0) := (hf1.cell (p := ⟨w.heap.size, 3, none⟩) (by simp)).trans c3
  clear c3
  go_wp2_with fail
  refine wp_loop_rounds 1 ?_
  rw [rounds_succ]
  go_wp2_with fail
  go_ret
  exact ⟨rfl, hf.trans hf1⟩
theorem ty_fields (L : Option Addr) (n c : Nat) (w : World) : Calls Tryz.prog 187 #[.agg #[.int .i64 2, .string ⟨#[]⟩, .slice none 0 0, .slice none 0 0, .bool false, .int .i64 0, .slice none 0 0, .slice L n c, .bool false, .bool true, .bool false, .bool false, .bool false, .bool false, .bool false, .bool false, .bool false, .bool false]] w fun e w' => e = .returned (.bool true) ∧ Fr w.heap.size w w' := by
  have hf := Fr.self w
  go_enter Tryz.func187, Tryz.ntmps187
  go_wp2_with fail
  go_ret
  exact ⟨rfl, by first | exact hf.alloc _ | exact (hf.alloc _).alloc _⟩
set_option maxRecDepth 20000 in
theorem ty_shape {B : Nat} (l : List LN) (L : Option Addr) (c : Nat) (w : World) (h : LimAt B w L l) (hB : B ≤ w.heap.size) (hm : l.length ≤ maxLen) (ha : ∀ x ∈ l, x.args.length ≤ 100000) :
    Calls Tryz.prog 155 #[.agg #[.int .i64 2, .string ⟨#[]⟩, .slice none 0 0, .slice none 0 0, .bool false, .int .i64 0, .slice none 0 0, .slice L l.length c, .bool false, .bool true, .bool false, .bool false, .bool false, .bool false, .bool false, .bool false, .bool false, .bool false]] w fun e w' => e = .returned (.bool (!treeB l)) ∧ Fr w.heap.size w w' := by
  have hf := (Fr.self w).alloc (.cells #[.int .i64 2, .string ⟨#[]⟩, .slice none 0 0, .slice none 0 0, .bool false, .int .i64 0, .slice none 0 0, .slice L l.length c, .bool false, .bool true, .bool false, .bool false, .bool false, .bool false, .bool false, .bool false, .bool false, .bool false] 175)
  have Hr := Lib.hid (ty_fields L l.length c (w.alloc (.cells #[.int .i64 2, .string ⟨#[]⟩, .slice none 0 0, .slice none 0 0, .bool false, .int .i64 0, .slice none 0 0, .slice L l.length c, .bool false, .bool true, .bool false, .bool false, .bool false, .bool false, .bool false, .bool false, .bool false, .bool false] 175)))
  have Ht := Lib.hid (fun W (hW : Fr w.heap.size w W) => isTree_any l L c W (h.keep (hW.2.mono hB)) (Nat.le_trans hB hW.2.size) hm ha)
  have c3 : (w.alloc (.cells #[.int .i64 2, .string ⟨#[]⟩, .slice none 0 0, .slice none 0 0, .bool false, .int .i64 0, .slice none 0 0, .slice L l.length c, .bool false, .bool true, .bool false, .bool false, .bool false, .bool false, .bool false, .bool false, .bool false, .bool false] 175)).cell? ⟨w.heap.size, 3, none⟩ = some (.slice none 0 0) := cell_new w _ _ 3
  have c7 : (w.alloc (.cells #[.int .i64 2, .string ⟨#[]⟩, .slice none 0 0, .slice none 0 0, .bool false, .int .i64 0, .slice none 0 0, .slice L l.length c, .bool false, .bool true, .bool false, .bool false, .bool false, .bool false, .bool false, .bool false, .bool false, .bool false] 175)).cell? ⟨w.heap.size, 7, none⟩ = some (.slice L l.length c) := cell_new w _ _ 7
  clear h hm ha
  generalize treeB l = r at *
  go_enter Tryz.func155, Tryz.ntmps155
  go_wp2_with fail
  refine (Hr.out).mono ?_
  rintro e w1 ⟨rfl, hf1⟩
  have d3 : w1.cell? ⟨w.heap.size, 3, none⟩ = some (.slice none 0 0) := (hf1.cell (p := ⟨w.heap.size, 3, none⟩) (by simp)).trans c3
  have d7 : w1.cell? ⟨w.heap.size, 7, none⟩ = some (.slice L l.length c) := (hf1.cell (p := ⟨w.heap.size, 7, none⟩) (by simp)).trans c7
  have hsz := hf1.2.size
  have hlt1 : w.heap.size < w1.heap.size := by simp at hsz; omega
  clear c3 c7
  go_wp2_with fail
  refine (Ht.out w1 (hf.trans hf1)).mono ?_
  rintro e w2 ⟨rfl, hf2⟩
  have e3 : w2.cell? ⟨w.heap.size, 3, none⟩ = some (.slice none 0 0) := (hf2.cell (p := ⟨w.heap.size, 3, none⟩) hlt1).trans d3
  clear d3 d7
  cases r with
  | true =>
    go_wp2_with fail
    refine wp_loop_rounds 1 ?_
    rw [rounds_succ]
    go_wp2_with fail
    go_ret
    exact ⟨rfl, (hf.trans hf1).trans hf2⟩
  | false =>
    go_wp2_with fail
    go_ret
    exact ⟨rfl, (hf.trans hf1).trans hf2⟩
theorem ty_names (L : Option Addr) (n c : Nat) (w : World) : Calls Tryz.prog 156 #[.agg #[.int .i64 2, .string ⟨#[]⟩, .slice none 0 0, .slice none 0 0, .bool false, .int .i64 0, .slice none 0 0, .slice L n c, .bool false, .bool true, .bool false, .bool false, .bool false, .bool false, .bool false, .bool false, .bool false, .bool false]] w fun e w' => e = .returned (.bool false) ∧ Fr w.heap.size w w' := by
  have hf := Fr.self w
  go_enter Tryz.func156, Tryz.ntmps156
  go_wp2_with fail
  refine wp_loop_rounds 1 ?_
  rw [rounds_succ]
  go_wp2_with fail
  go_ret
  exact ⟨rfl, by first | exact hf.alloc _ | exact (hf.alloc _).alloc _⟩
theorem ty_twice (L : Option Addr) (n c : Nat) (w : World) : Calls Tryz.prog 157 #[.agg #[.int .i64 2, .string ⟨#[]⟩, .slice none 0 0, .slice none 0 0, .bool false, .int .i64 0, .slice none 0 0, .slice L n c, .bool false, .bool true, .bool false, .bool false, .bool false, .bool false, .bool false, .bool false, .bool false, .bool false]] w fun e w' => e = .returned (.bool false) ∧ Fr w.heap.size w w' := by
  have hf := Fr.self w
  go_enter Tryz.func157, Tryz.ntmps157
  go_wp2_with fail
  refine wp_loop_rounds 1 ?_
  rw [rounds_succ]
  go_wp2_with fail
  go_ret
  exact ⟨rfl, by first | exact hf.alloc _ | exact (hf.alloc _).alloc _⟩
theorem ty_order (L : Option Addr) (n c : Nat) (w : World) : Calls Tryz.prog 158 #[.agg #[.int .i64 2, .string ⟨#[]⟩, .slice none 0 0, .slice none 0 0, .bool false, .int .i64 0, .slice none 0 0, .slice L n c, .bool false, .bool true, .bool false, .bool false, .bool false, .bool false, .bool false, .bool false, .bool false, .bool false]] w fun e w' => e = .returned (.bool false) ∧ Fr w.heap.size w w' := by
  have hf := Fr.self w
  go_enter Tryz.func158, Tryz.ntmps158
  go_wp2_with fail
  refine wp_loop_rounds 1 ?_
  rw [rounds_succ]
  go_wp2_with fail
  go_ret
  exact ⟨rfl, by first | exact hf.alloc _ | exact (hf.alloc _).alloc _⟩
theorem ty_great (L : Option Addr) (n c : Nat) (w : World) : Calls Tryz.prog 159 #[.agg #[.int .i64 2, .string ⟨#[]⟩, .slice none 0 0, .slice none 0 0, .bool false, .int .i64 0, .slice none 0 0, .slice L n c, .bool false, .bool true, .bool false, .bool false, .bool false, .bool false, .bool false, .bool false, .bool false, .bool false]] w fun e w' => e = .returned (.bool false) ∧ Fr w.heap.size w w' := by
  have hf := Fr.self w
  go_enter Tryz.func159, Tryz.ntmps159
  go_wp2_with fail
  refine wp_loop_rounds 1 ?_
  rw [rounds_succ]
  go_wp2_with fail
  go_ret
  exact ⟨rfl, by first | exact hf.alloc _ | exact (hf.alloc _).alloc _⟩
end Go.Proofs.YtgdedcdjfljcnaaGreatDoor
