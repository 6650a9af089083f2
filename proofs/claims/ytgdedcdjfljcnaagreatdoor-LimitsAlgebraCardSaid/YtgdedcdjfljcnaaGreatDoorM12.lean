/- The contract on CheckType at a type of whole numbers. -/
import Derived.Test.YtgdedcdjfljcnaaGreatDoorM11
import Derived.Deep.MidRow
namespace Go.Proofs.YtgdedcdjfljcnaaGreatDoor
open Go.RowKit

theorem drew_alloc_old {w : World} {a : Addr} {v : Option Value} (o : Obj) (h : a.block < w.heap.size) (hv : w.cell? a = v) : (w.alloc o).drew.cell? a = v := (World.cell?_alloc_lt _ _ _ h).trans hv
/-- The rules for a type of whole numbers: its constraint must be a tree. -/
def tyRules (l : List LN) (X : Array Value) : List Ru := [⟨2, 152, .agg X, false⟩, ⟨3, 153, .agg X, false⟩, ⟨5, 154, .agg X, false⟩, ⟨6, 155, .agg X, !treeB l⟩, ⟨7, 156, .agg X, false⟩, ⟨13, 157, .agg X, false⟩, ⟨14, 158, .agg X, false⟩, ⟨3, 159, .agg X, false⟩]
def tyErr (l : List LN) : Int := if treeB l = true then 0 else 6
theorem tyRules_ok (l : List LN) (X : Array Value) : firstOf (tyRules l X) = tyErr l := by
  unfold tyErr tyRules
  cases treeB l <;> rfl
set_option maxRecDepth 100000 in
set_option maxHeartbeats 1000000 in
theorem ty_own {B : Nat} (l : List LN) (L : Option Addr) (c : Nat) (w : World) (h : LimAt B w L l) (hB : B ≤ w.heap.size) (hm : l.length ≤ maxLen) (ha : ∀ x ∈ l, x.args.length ≤ 100000) (hp : PartTy w) :
    Calls Tryz.prog 127 #[.agg #[.int .i64 2, .string ⟨#[]⟩, .slice none 0 0, .slice none 0 0, .bool false, .int .i64 0, .slice none 0 0, .slice L l.length c]] w fun e w' => e = .returned (.int .i64 (tyErr l)) ∧ Fr w.heap.size w w' := by
  have hf := Fr.self w
  have hg := hp.lt
  have H := Lib.hid h; have Ha := Lib.hid ha
  have t0 := hp 0 _ rfl; have t1 := hp 1 _ rfl; have t2 := hp 2 _ rfl; have t3 := hp 3 _ rfl; have t4 := hp 4 _ rfl; have t5 := hp 5 _ rfl; have t6 := hp 6 _ rfl; have t7 := hp 7 _ rfl; have t8 := hp 8 _ rfl; have t9 := hp 9 _ rfl
  simp only [Nat.add_zero, Nat.reduceAdd] at t0 t1 t2 t3 t4 t5 t6 t7 t8 t9
  clear h ha hp
  have hbox := fun k => cell_new w #[.int .i64 2, .string ⟨#[]⟩, .slice none 0 0, .slice none 0 0, .bool false, .int .i64 0, .slice none 0 0, .slice L l.length c] 28 k
  have c0 : (w.alloc (.cells #[.int .i64 2, .string ⟨#[]⟩, .slice none 0 0, .slice none 0 0, .bool false, .int .i64 0, .slice none 0 0, .slice L l.length c] 28)).cell? ⟨w.heap.size, 0, none⟩ = some (.int .i64 2) := hbox 0
  have c1 : (w.alloc (.cells #[.int .i64 2, .string ⟨#[]⟩, .slice none 0 0, .slice none 0 0, .bool false, .int .i64 0, .slice none 0 0, .slice L l.length c] 28)).cell? ⟨w.heap.size, 1, none⟩ = some (.string ⟨#[]⟩) := hbox 1
  have c2 : (w.alloc (.cells #[.int .i64 2, .string ⟨#[]⟩, .slice none 0 0, .slice none 0 0, .bool false, .int .i64 0, .slice none 0 0, .slice L l.length c] 28)).cell? ⟨w.heap.size, 2, none⟩ = some (.slice none 0 0) := hbox 2
  have c3 : (w.alloc (.cells #[.int .i64 2, .string ⟨#[]⟩, .slice none 0 0, .slice none 0 0, .bool false, .int .i64 0, .slice none 0 0, .slice L l.length c] 28)).cell? ⟨w.heap.size, 3, none⟩ = some (.slice none 0 0) := hbox 3
  have c4 : (w.alloc (.cells #[.int .i64 2, .string ⟨#[]⟩, .slice none 0 0, .slice none 0 0, .bool false, .int .i64 0, .slice none 0 0, .slice L l.length c] 28)).cell? ⟨w.heap.size, 4, none⟩ = some (.bool false) := hbox 4
  have c5 : (w.alloc (.cells #[.int .i64 2, .string ⟨#[]⟩, .slice none 0 0, .slice none 0 0, .bool false, .int .i64 0, .slice none 0 0, .slice L l.length c] 28)).cell? ⟨w.heap.size, 5, none⟩ = some (.int .i64 0) := hbox 5
  have c6 : (w.alloc (.cells #[.int .i64 2, .string ⟨#[]⟩, .slice none 0 0, .slice none 0 0, .bool false, .int .i64 0, .slice none 0 0, .slice L l.length c] 28)).cell? ⟨w.heap.size, 6, none⟩ = some (.slice none 0 0) := hbox 6
  have c7 : (w.alloc (.cells #[.int .i64 2, .string ⟨#[]⟩, .slice none 0 0, .slice none 0 0, .bool false, .int .i64 0, .slice none 0 0, .slice L l.length c] 28)).cell? ⟨w.heap.size, 7, none⟩ = some (.slice L l.length c) := hbox 7
  have hfa := hf.alloc (.cells #[.int .i64 2, .string ⟨#[]⟩, .slice none 0 0, .slice none 0 0, .bool false, .int .i64 0, .slice none 0 0, .slice L l.length c] 28)
  have hlw : w.heap.size < (w.alloc (.cells #[.int .i64 2, .string ⟨#[]⟩, .slice none 0 0, .slice none 0 0, .bool false, .int .i64 0, .slice none 0 0, .slice L l.length c] 28)).heap.size := by simp
  have hgl : 1 < (w.alloc (.cells #[.int .i64 2, .string ⟨#[]⟩, .slice none 0 0, .slice none 0 0, .bool false, .int .i64 0, .slice none 0 0, .slice L l.length c] 28)).heap.size := by simp; omega
  have u0 : (w.alloc (.cells #[.int .i64 2, .string ⟨#[]⟩, .slice none 0 0, .slice none 0 0, .bool false, .int .i64 0, .slice none 0 0, .slice L l.length c] 28)).cell? ⟨1, 20, none⟩ = some (.bool false) := (hfa.cell (p := ⟨1, 20, none⟩) hg).trans t0
  have u1 : (w.alloc (.cells #[.int .i64 2, .string ⟨#[]⟩, .slice none 0 0, .slice none 0 0, .bool false, .int .i64 0, .slice none 0 0, .slice L l.length c] 28)).cell? ⟨1, 21, none⟩ = some (.bool true) := (hfa.cell (p := ⟨1, 21, none⟩) hg).trans t1
  have u2 : (w.alloc (.cells #[.int .i64 2, .string ⟨#[]⟩, .slice none 0 0, .slice none 0 0, .bool false, .int .i64 0, .slice none 0 0, .slice L l.length c] 28)).cell? ⟨1, 22, none⟩ = some (.bool false) := (hfa.cell (p := ⟨1, 22, none⟩) hg).trans t2
  have u3 : (w.alloc (.cells #[.int .i64 2, .string ⟨#[]⟩, .slice none 0 0, .slice none 0 0, .bool false, .int .i64 0, .slice none 0 0, .slice L l.length c] 28)).cell? ⟨1, 23, none⟩ = some (.bool false) := (hfa.cell (p := ⟨1, 23, none⟩) hg).trans t3
  have u4 : (w.alloc (.cells #[.int .i64 2, .string ⟨#[]⟩, .slice none 0 0, .slice none 0 0, .bool false, .int .i64 0, .slice none 0 0, .slice L l.length c] 28)).cell? ⟨1, 24, none⟩ = some (.bool false) := (hfa.cell (p := ⟨1, 24, none⟩) hg).trans t4
  have u5 : (w.alloc (.cells #[.int .i64 2, .string ⟨#[]⟩, .slice none 0 0, .slice none 0 0, .bool false, .int .i64 0, .slice none 0 0, .slice L l.length c] 28)).cell? ⟨1, 25, none⟩ = some (.bool false) := (hfa.cell (p := ⟨1, 25, none⟩) hg).trans t5
  have u6 : (w.alloc (.cells #[.int .i64 2, .string ⟨#[]⟩, .slice none 0 0, .slice none 0 0, .bool false, .int .i64 0, .slice none 0 0, .slice L l.length c] 28)).cell? ⟨1, 26, none⟩ = some (.bool false) := (hfa.cell (p := ⟨1, 26, none⟩) hg).trans t6
  have u7 : (w.alloc (.cells #[.int .i64 2, .string ⟨#[]⟩, .slice none 0 0, .slice none 0 0, .bool false, .int .i64 0, .slice none 0 0, .slice L l.length c] 28)).cell? ⟨1, 27, none⟩ = some (.bool false) := (hfa.cell (p := ⟨1, 27, none⟩) hg).trans t7
  have u8 : (w.alloc (.cells #[.int .i64 2, .string ⟨#[]⟩, .slice none 0 0, .slice none 0 0, .bool false, .int .i64 0, .slice none 0 0, .slice L l.length c] 28)).cell? ⟨1, 28, none⟩ = some (.bool false) := (hfa.cell (p := ⟨1, 28, none⟩) hg).trans t8
  have u9 : (w.alloc (.cells #[.int .i64 2, .string ⟨#[]⟩, .slice none 0 0, .slice none 0 0, .bool false, .int .i64 0, .slice none 0 0, .slice L l.length c] 28)).cell? ⟨1, 29, none⟩ = some (.bool false) := (hfa.cell (p := ⟨1, 29, none⟩) hg).trans t9
  clear hbox t0 t1 t2 t3 t4 t5 t6 t7 t8 t9
  go_enter Tryz.func127, Tryz.ntmps127
  go_wp2_with fail
  generalize hW1 : w.alloc (.cells #[.int .i64 2, .string ⟨#[]⟩, .slice none 0 0, .slice none 0 0, .bool false, .int .i64 0, .slice none 0 0, .slice L l.length c] 28) = W1 at *
  have HW1 := Lib.hid hW1
  clear hW1
  obtain ⟨T1, hT1⟩ : ∃ T : Nat → Option Value, ∀ k, W1.cell? ⟨w.heap.size, k, none⟩ = T k := ⟨_, fun _ => rfl⟩
  obtain ⟨T2, hT2⟩ : ∃ T : Nat → Option Value, ∀ k, W1.cell? ⟨1, k, none⟩ = T k := ⟨_, fun _ => rfl⟩
  rw [hT1] at c0 c1 c2 c3 c4 c5 c6 c7
  rw [hT2] at u0 u1 u2 u3 u4 u5 u6 u7 u8 u9
  have HT1 := Lib.hid hT1; have HT2 := Lib.hid hT2
  clear hT1 hT2
  go_region_held3 (fun w' => (∀ k, w'.cell? ⟨w.heap.size, k, none⟩ = T1 k) ∧ ∀ k, w'.cell? ⟨1, k, none⟩ = T2 k)
    (first
      | exact ⟨HT1.out, HT2.out⟩
      | exact ⟨fun k => drew_alloc_old _ hlw (HT1.out k), fun k => drew_alloc_old _ hgl (HT2.out k)⟩
      | go_keep)
    (first | fail)
  clear c0 c1 c2 c3 c4 c5 c6 c7 u0 u1 u2 u3 u4 u5 u6 u7 u8 u9
  rename_i hHeld
  clear hHeld
  have hf2 : Fr w.heap.size w (W1.alloc (.cells #[.int .i64 2, .string ⟨#[]⟩, .slice none 0 0, .slice none 0 0, .bool false, .int .i64 0, .slice none 0 0, .slice L l.length c, .bool false, .bool true, .bool false, .bool false, .bool false, .bool false, .bool false, .bool false, .bool false, .bool false] 175)).drew := (hfa.alloc _).drew
  obtain ⟨X, hX⟩ : ∃ X : List Value, #[.int .i64 2, .string ⟨#[]⟩, .slice none 0 0, .slice none 0 0, .bool false, .int .i64 0, .slice none 0 0, .slice L l.length c, .bool false, .bool true, .bool false, .bool false, .bool false, .bool false, .bool false, .bool false, .bool false, .bool false] = X.toArray := ⟨[.int .i64 2, .string ⟨#[]⟩, .slice none 0 0, .slice none 0 0, .bool false, .int .i64 0, .slice none 0 0, .slice L l.length c, .bool false, .bool true, .bool false, .bool false, .bool false, .bool false, .bool false, .bool false, .bool false, .bool false], rfl⟩
  rw [hX] at hf2 ⊢
  have hld : World.rangeAt (W1.alloc (.cells X.toArray 175)).drew W1.heap.size 0 X := fun j v hv => by
    rw [Nat.zero_add, World.cell?_drew, cell_new, List.getElem?_toArray]; exact hv
  have hil : (Tryz.prog.info? 175).map (·.size) = some X.length := by
    have h : X.length = 18 := by have := congrArg Array.size hX; simpa using this.symm
    have h2 : (Tryz.prog.info? 175).map (·.size) = some 18 := by kernel_rfl
    rw [h, h2]
  have hul : Tryz.prog.underlying 175 = some (.struct (Tryz.prog.fieldsOf 175)) := by kernel_rfl
  have HX := Lib.hid hX; have Hld := Lib.hid hld; have Hil := Lib.hid hil; have Hul := Lib.hid hul
  clear hX hld hil hul
  generalize (W1.alloc (.cells X.toArray 175)).drew = W2 at *
  go_wp2_with (with_reducible refine wpList_load_mid rfl 175 _ rfl W1.heap.size 0 rfl X _ Hld.out Hul.out rfl Hil.out ?_)
  refine (firstBroken_new (tyRules l X.toArray) W2 8 _ rfl (by show 8 ≤ 100; decide) ?ent ?calls).mono ?rest
  case ent =>
    intro r hr W
    simp only [tyRules, List.mem_cons, List.not_mem_nil, or_false] at hr
    rcases hr with rfl | rfl | rfl | rfl | rfl | rfl | rfl | rfl <;> rfl
  case calls =>
    have hX := HX.out
    rw [← hX] at *
    intro r hr W3 hf3
    have hfw := hf2.trans hf3
    simp only [tyRules, List.mem_cons, List.not_mem_nil, or_false] at hr
    rcases hr with rfl | rfl | rfl | rfl | rfl | rfl | rfl | rfl
    · exact ty_many L l.length c W3
    · exact ty_range L l.length c W3
    · exact ty_foreign L l.length c W3
    · exact ty_shape l L c W3 (H.out.keep (hfw.2.mono hB)) (Nat.le_trans hB hfw.2.size) hm Ha.out
    · exact ty_names L l.length c W3
    · exact ty_twice L l.length c W3
    · exact ty_order L l.length c W3
    · exact ty_great L l.length c W3
  case rest =>
    rintro e w3 ⟨rfl, hf3⟩
    rw [tyRules_ok]
    go_wp2_with fail
    go_ret
    exact ⟨rfl, hf2.trans hf3⟩
set_option maxRecDepth 20000 in
theorem ty_error {B : Nat} (l : List LN) (L : Option Addr) (c : Nat) (w : World) (h : LimAt B w L l) (hB : B ≤ w.heap.size) (hm : l.length ≤ maxLen) (ha : ∀ x ∈ l, x.args.length ≤ 100000) (hp : PartTy w) :
    Calls Tryz.prog 95 #[.agg #[.int .i64 2, .string ⟨#[]⟩, .slice none 0 0, .slice none 0 0, .bool false, .int .i64 0, .slice none 0 0, .slice L l.length c]] w fun e w' => e = .returned (.int .i64 (tyErr l)) ∧ Fr w.heap.size w w' := by
  have hf := (Fr.self w).alloc (.cells #[.int .i64 2, .string ⟨#[]⟩, .slice none 0 0, .slice none 0 0, .bool false, .int .i64 0, .slice none 0 0, .slice L l.length c] 28)
  have Ho := Lib.hid (ty_own l L c _ (h.keep (hf.2.mono hB)) (Nat.le_trans hB hf.2.size) hm ha (hp.keep hf.2))
  have Hc := Lib.hid (fun k => cell_new w #[.int .i64 2, .string ⟨#[]⟩, .slice none 0 0, .slice none 0 0, .bool false, .int .i64 0, .slice none 0 0, .slice L l.length c] 28 k)
  clear hp h ha hm
  have hcase : tyErr l = 0 ∨ tyErr l = 6 := by unfold tyErr; split <;> simp
  generalize tyErr l = r at *
  rcases hcase with rfl | rfl
  · go_enter Tryz.func95, Tryz.ntmps95
    go_wp2_with fail
    refine (Ho.out).mono ?_
    rintro e w1 ⟨rfl, hf1⟩
    have c3 : w1.cell? ⟨w.heap.size, 3, none⟩ = some (.slice none 0 0) := (hf1.cell (p := ⟨w.heap.size, 3, none⟩) (by simp)).trans (Hc.out 3)
    have c6 : w1.cell? ⟨w.heap.size, 6, none⟩ = some (.slice none 0 0) := (hf1.cell (p := ⟨w.heap.size, 6, none⟩) (by simp)).trans (Hc.out 6)
    go_wp2_with fail
    refine wp_loop_rounds 1 ?_
    rw [rounds_succ]
    go_wp2_with fail
    refine wp_loop_rounds 1 ?_
    rw [rounds_succ]
    go_wp2_with fail
    go_ret
    exact ⟨rfl, hf.trans hf1⟩
  · go_enter Tryz.func95, Tryz.ntmps95
    go_wp2_with fail
    refine (Ho.out).mono ?_
    rintro e w1 ⟨rfl, hf1⟩
    go_wp2_with fail
    go_ret
    exact ⟨rfl, hf.trans hf1⟩
theorem ty_room (L : Option Addr) (n c : Nat) (g : Nat) (w : World) (hg : g < w.heap.size) (h : w.cell? ⟨g, 0, none⟩ = some (.int .i64 60)) (hz : w.frozen? ⟨g, 0, none⟩ = false) :
    Calls Tryz.prog 94 #[.pointer (some ⟨g, 0, none⟩), .agg #[.int .i64 2, .string ⟨#[]⟩, .slice none 0 0, .slice none 0 0, .bool false, .int .i64 0, .slice none 0 0, .slice L n c], .int .i64 9] w fun e w' => e = .returned (.bool true) ∧ Fr g w w' := by
  have hf := (Fr.refl (Nat.le_of_lt hg)).alloc (.cells #[.int .i64 2, .string ⟨#[]⟩, .slice none 0 0, .slice none 0 0, .bool false, .int .i64 0, .slice none 0 0, .slice L n c] 28)
  have hfw := (Fr.self w).alloc (.cells #[.int .i64 2, .string ⟨#[]⟩, .slice none 0 0, .slice none 0 0, .bool false, .int .i64 0, .slice none 0 0, .slice L n c] 28)
  have Hr := Lib.hid (hasRoom_yes g 60 9 _ ((hfw.cell (p := ⟨g, 0, none⟩) hg).trans h) ((hfw.frozen (p := ⟨g, 0, none⟩) hg).trans hz) (by omega) (by omega) (by omega))
  clear h hz hfw
  go_enter Tryz.func94, Tryz.ntmps94
  go_wp2_with fail
  refine (Hr.out).mono ?_
  rintro e w1 ⟨rfl, hw1⟩
  have hf1 : Fr g w w1 := by rw [hw1]; exact hf.setCell (Nat.le_refl _) _
  have c3 : w1.cell? ⟨w.heap.size, 3, none⟩ = some (.slice none 0 0) := by
    rw [hw1, World.cell?_setCell_other _ _ _ _ (by simp <;> omega)]; exact cell_new w _ _ 3
  have c6 : w1.cell? ⟨w.heap.size, 6, none⟩ = some (.slice none 0 0) := by
    rw [hw1, World.cell?_setCell_other _ _ _ _ (by simp <;> omega)]; exact cell_new w _ _ 6
  clear hw1
  go_wp2_with fail
  refine wp_loop_rounds 1 ?_
  rw [rounds_succ]
  go_wp2_with fail
  refine wp_loop_rounds 1 ?_
  rw [rounds_succ]
  go_wp2_with fail
  go_ret
  exact ⟨rfl, hf1⟩
set_option maxRecDepth 20000 in
theorem CheckType_any {B : Nat} (l : List LN) (L : Option Addr) (c : Nat) (w : World) (h : LimAt B w L l) (hB : B ≤ w.heap.size) (hm : l.length ≤ maxLen) (ha : ∀ x ∈ l, x.args.length ≤ 100000) (hp : PartTy w) :
    Calls Tryz.prog 72 #[.agg #[.int .i64 2, .string ⟨#[]⟩, .slice none 0 0, .slice none 0 0, .bool false, .int .i64 0, .slice none 0 0, .slice L l.length c]] w fun e w' => e = .returned (.int .i64 (tyErr l)) ∧ Fr w.heap.size w w' := by
  have hf := ((Fr.self w).alloc (.cells #[.int .i64 2, .string ⟨#[]⟩, .slice none 0 0, .slice none 0 0, .bool false, .int .i64 0, .slice none 0 0, .slice L l.length c] 28)).alloc (.cells #[.int .i64 60] 116)
  have hz : (w.alloc (.cells #[.int .i64 2, .string ⟨#[]⟩, .slice none 0 0, .slice none 0 0, .bool false, .int .i64 0, .slice none 0 0, .slice L l.length c] 28)).heap.size = w.heap.size + 1 := by simp
  have hc := cell_new (w.alloc (.cells #[.int .i64 2, .string ⟨#[]⟩, .slice none 0 0, .slice none 0 0, .bool false, .int .i64 0, .slice none 0 0, .slice L l.length c] 28)) #[.int .i64 60] 116 0
  have hfz : ((w.alloc (.cells #[.int .i64 2, .string ⟨#[]⟩, .slice none 0 0, .slice none 0 0, .bool false, .int .i64 0, .slice none 0 0, .slice L l.length c] 28)).alloc (.cells #[.int .i64 60] 116)).frozen? ⟨(w.alloc (.cells #[.int .i64 2, .string ⟨#[]⟩, .slice none 0 0, .slice none 0 0, .bool false, .int .i64 0, .slice none 0 0, .slice L l.length c] 28)).heap.size, 0, none⟩ = false := frozen_new _ _ _ 0
  rw [hz] at hc hfz
  have Hr := Lib.hid (ty_room L l.length c (w.heap.size + 1) _ (by simp) hc hfz)
  have c0 := fun k => cell_new w #[.int .i64 2, .string ⟨#[]⟩, .slice none 0 0, .slice none 0 0, .bool false, .int .i64 0, .slice none 0 0, .slice L l.length c] 28 k
  have Hp := Lib.hid hp; have H := Lib.hid h; have Ha := Lib.hid ha
  clear hp hc hfz hz h ha
  go_enter Tryz.func72, Tryz.ntmps72
  go_wp2_with fail
  refine (Hr.out).mono ?_
  rintro e w1 ⟨rfl, hf1⟩
  have hb1 := hf1.2
  have hk : ∀ k, w1.cell? ⟨w.heap.size, k, none⟩ = #[.int .i64 2, .string ⟨#[]⟩, .slice none 0 0, .slice none 0 0, .bool false, .int .i64 0, .slice none 0 0, .slice L l.length c][k]? := fun k => (hb1.cell (p := ⟨w.heap.size, k, none⟩) (by simp)).trans ((World.cell?_alloc_lt _ _ _ (by simp)).trans (c0 k))
  have k0 := hk 0; have k1 := hk 1; have k2 := hk 2; have k3 := hk 3; have k4 := hk 4; have k5 := hk 5; have k6 := hk 6; have k7 := hk 7
  have hfw : Fr w.heap.size w w1 := ⟨Nat.le_refl _, hf.2.trans (hb1.mono (by omega))⟩
  have Hv := Lib.hid (ty_error l L c w1 (H.out.keep (hfw.2.mono hB)) (Nat.le_trans hB hfw.2.size) hm Ha.out (Hp.out.keep hfw.2))
  clear hk hb1 c0 hf
  go_wp2_with fail
  refine (Hv.out).mono ?_
  rintro e w2 ⟨rfl, hf2⟩
  go_wp2_with fail
  go_ret
  exact ⟨rfl, hfw.trans hf2⟩
end Go.Proofs.YtgdedcdjfljcnaaGreatDoor
