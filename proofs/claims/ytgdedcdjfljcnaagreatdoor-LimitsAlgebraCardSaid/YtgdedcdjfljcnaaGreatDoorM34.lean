/- Contracts on the form of a type of whole numbers with tags: the checks. -/
import Derived.Test.YtgdedcdjfljcnaaGreatDoorM11
import Derived.Test.YtgdedcdjfljcnaaGreatDoorM09
namespace Go.Proofs.YtgdedcdjfljcnaaGreatDoor
open Go.RowKit

theorem gy_many (TA : Option Addr) (tn tc : Nat) (L : Option Addr) (n c : Nat) (w : World) (htn : tn ≤ 3) : Calls Tryz.prog 152 #[.agg #[.int .i64 2, .string ⟨#[]⟩, .slice TA tn tc, .slice none 0 0, .bool false, .int .i64 0, .slice none 0 0, .slice L n c, .bool false, .bool true, .bool false, .bool false, .bool false, .bool false, .bool false, .bool false, .bool false, .bool false]] w fun e w' => e = .returned (.bool false) ∧ Fr w.heap.size w w' := by
  have hf := Fr.self w
  have htn' : ¬ (3 : Int) < (tn : Int) := by omega
  go_enter Tryz.func152, Tryz.ntmps152
  go_wp2_with fail
  go_ret
  exact ⟨rfl, by first | exact hf.alloc _ | exact (hf.alloc _).alloc _⟩
theorem isTag_any (t : TG) (w : World) : Calls Tryz.prog 184 #[.agg #[.int .i64 t.cls, .int .i64 t.num, .int .i64 t.way]] w fun e w' => e = .returned (.bool (tagB t)) ∧ Fr w.heap.size w w' := by
  obtain ⟨c, n, y⟩ := t
  have hv : tagB ⟨c, n, y⟩ = decide (1 ≤ c ∧ c ≤ 3 ∧ 0 ≤ n ∧ n ≤ 100000 ∧ 0 ≤ y ∧ y ≤ 2) := rfl
  generalize tagB ⟨c, n, y⟩ = r at *
  have Hv := Lib.hid hv
  have hf := (Fr.self w).alloc (.cells #[.int .i64 c, .int .i64 n, .int .i64 y] 168)
  clear hv
  simp only
  go_enter Tryz.func184, Tryz.ntmps184
  go_wp2_with fail
  all_goals (go_ret; exact ⟨ret_bool (by rw [Hv.out, Bool.eq_iff_iff]; simp <;> omega), hf⟩)
set_option maxRecDepth 20000 in
theorem gy_range {B : Nat} (tags : List TG) (TA : Option Addr) (tc : Nat) (L : Option Addr) (n c : Nat) (w : World) (h : TagAt B w TA tags) (hB : B ≤ w.heap.size) (hto : TagsOk tags) : Calls Tryz.prog 153 #[.agg #[.int .i64 2, .string ⟨#[]⟩, .slice TA tags.length tc, .slice none 0 0, .bool false, .int .i64 0, .slice none 0 0, .slice L n c, .bool false, .bool true, .bool false, .bool false, .bool false, .bool false, .bool false, .bool false, .bool false, .bool false]] w fun e w' => e = .returned (.bool false) ∧ Fr w.heap.size w w' := by
  have hf := (Fr.self w).alloc (.cells #[.int .i64 2, .string ⟨#[]⟩, .slice TA tags.length tc, .slice none 0 0, .bool false, .int .i64 0, .slice none 0 0, .slice L n c, .bool false, .bool true, .bool false, .bool false, .bool false, .bool false, .bool false, .bool false, .bool false, .bool false] 175)
  have hk := fun k => cell_new w #[.int .i64 2, .string ⟨#[]⟩, .slice TA tags.length tc, .slice none 0 0, .bool false, .int .i64 0, .slice none 0 0, .slice L n c, .bool false, .bool true, .bool false, .bool false, .bool false, .bool false, .bool false, .bool false, .bool false, .bool false] 175 k
  have Hk := Lib.hid hk
  have hl := hto.1
  have H := Lib.hid h; have Ho := Lib.hid hto.2
  have Ht := Lib.hid isTag_any
  have hsz : w.heap.size < (w.alloc (.cells #[.int .i64 2, .string ⟨#[]⟩, .slice TA tags.length tc, .slice none 0 0, .bool false, .int .i64 0, .slice none 0 0, .slice L n c, .bool false, .bool true, .bool false, .bool false, .bool false, .bool false, .bool false, .bool false, .bool false, .bool false] 175)).heap.size := by simp
  clear h hto hk
  go_enter Tryz.func153, Tryz.ntmps153
  go_wp2_with fail
  go_loopw [11] (fun i wr => ∃ m : Nat, m ≤ tags.length ∧ i = .int .i64 m ∧ Fr w.heap.size w wr ∧ (∀ k, wr.cell? ⟨w.heap.size, k, none⟩ = #[.int .i64 2, .string ⟨#[]⟩, .slice TA tags.length tc, .slice none 0 0, .bool false, .int .i64 0, .slice none 0 0, .slice L n c, .bool false, .bool true, .bool false, .bool false, .bool false, .bool false, .bool false, .bool false, .bool false, .bool false][k]?)) (fun i _ => tags.length - (intOf i).toNat)
  case atStart => exact ⟨0, by omega, by go_num, hf, Hk.out⟩
  case round =>
    obtain ⟨m, hml, rfl, hfr, hkr⟩ := hrel
    have hzr : w.heap.size < wr.heap.size := cell_block (hkr 0)
    by_cases hlt : m < tags.length
    · obtain ⟨t, ht⟩ : ∃ t, tags[m]? = some t := ⟨_, List.getElem?_eq_getElem hlt⟩
      have htb := Ho.out t (List.mem_of_getElem? ht)
      obtain ⟨b, off, rfl, -, hc⟩ := (H.out.keep (hfr.2.mono hB)).resolve_left (by rintro rfl; simp at hlt)
      obtain ⟨c0, c1, c2⟩ := hc m t ht
      have hmn : (0 : Int) ≤ m := by omega
      have hmm : (m : Int) < tags.length := by omega
      have Hkr := Lib.hid hkr
      clear hc ht hkr
      go_wp2_with fail
      refine (Ht.out t _).mono ?_
      rintro e w2 ⟨rfl, hf2⟩
      rw [htb]
      have hfw := (hfr.alloc _).trans hf2
      have hk2 := fun k => (hf2.cell (p := ⟨w.heap.size, k, none⟩) (by simp; omega)).trans ((World.cell?_alloc_lt wr (.cells #[.int .i64 t.cls, .int .i64 t.num, .int .i64 t.way] 168) ⟨w.heap.size, k, none⟩ hzr).trans (Hkr.out k))
      have Hk2 := Lib.hid hk2
      clear c0 c1 c2 hk2 hf2
      go_wp2_with fail
      go_roundw
      case rel => exact ⟨m + 1, by omega, by go_num, hfw, Hk2.out⟩
      case measure => simp [intOf] <;> omega
    · obtain rfl : m = tags.length := by omega
      have k3 := hkr 3; have k5 := hkr 5
      clear hkr
      go_wp2_with fail
      refine wp_loop_rounds 1 ?_
      rw [rounds_succ]
      go_wp2_with fail
      go_ret
      exact ⟨rfl, hfr⟩
theorem gy_root (TA : Option Addr) (tn tc : Nat) (L : Option Addr) (n c : Nat) (w : World) : Calls Tryz.prog 185 #[.agg #[.int .i64 2, .string ⟨#[]⟩, .slice TA tn tc, .slice none 0 0, .bool false, .int .i64 0, .slice none 0 0, .slice L n c, .bool false, .bool true, .bool false, .bool false, .bool false, .bool false, .bool false, .bool false, .bool false, .bool false]] w fun e w' => e = .returned (.bool false) ∧ Fr w.heap.size w w' := by
  have hf := Fr.self w
  go_enter Tryz.func185, Tryz.ntmps185
  go_wp2_with fail
  go_ret
  exact ⟨rfl, by first | exact hf.alloc _ | exact (hf.alloc _).alloc _⟩
theorem gy_foreign (TA : Option Addr) (tn tc : Nat) (L : Option Addr) (n c : Nat) (w : World) : Calls Tryz.prog 154 #[.agg #[.int .i64 2, .string ⟨#[]⟩, .slice TA tn tc, .slice none 0 0, .bool false, .int .i64 0, .slice none 0 0, .slice L n c, .bool false, .bool true, .bool false, .bool false, .bool false, .bool false, .bool false, .bool false, .bool false, .bool false]] w fun e w' => e = .returned (.bool false) ∧ Fr w.heap.size w w' := by
  have hf := (Fr.self w).alloc (.cells #[.int .i64 2, .string ⟨#[]⟩, .slice TA tn tc, .slice none 0 0, .bool false, .int .i64 0, .slice none 0 0, .slice L n c, .bool false, .bool true, .bool false, .bool false, .bool false, .bool false, .bool false, .bool false, .bool false, .bool false] 175)
  have Hr := Lib.hid (gy_root TA tn tc L n c (w.alloc (.cells #[.int .i64 2, .string ⟨#[]⟩, .slice TA tn tc, .slice none 0 0, .bool false, .int .i64 0, .slice none 0 0, .slice L n c, .bool false, .bool true, .bool false, .bool false, .bool false, .bool false, .bool false, .bool false, .bool false, .bool false] 175)))
  have c3 : (w.alloc (.cells #[.int .i64 2, .string ⟨#[]⟩, .slice TA tn tc, .slice none 0 0, .bool false, .int .i64 0, .slice none 0 0, .slice L n c, .bool false, .bool true, .bool false, .bool false, .bool false, .bool false, .bool false, .bool false, .bool false, .bool false] 175)).cell? ⟨w.heap.size, 3, none⟩ = some (.slice none 0 0) := cell_new w _ _ 3
  go_enter Tryz.func154, Tryz.ntmps154
  go_wp2_with fail
  refine (Hr.out).mono ?_
  rintro e w1 ⟨rfl, hf1⟩
  have d3 : w1.cell? ⟨w.heap.size, 3, none⟩ = some (.slice none 0 0) := (hf1.cell (p := ⟨w.heap.size, 3, none⟩) (by simp)).trans c3
  clear c3
  go_wp2_with fail
  refine wp_loop_rounds 1 ?_
  rw [rounds_succ]
  go_wp2_with fail
  go_ret
  exact ⟨rfl, hf.trans hf1⟩
theorem gy_fields (TA : Option Addr) (tn tc : Nat) (L : Option Addr) (n c : Nat) (w : World) : Calls Tryz.prog 187 #[.agg #[.int .i64 2, .string ⟨#[]⟩, .slice TA tn tc, .slice none 0 0, .bool false, .int .i64 0, .slice none 0 0, .slice L n c, .bool false, .bool true, .bool false, .bool false, .bool false, .bool false, .bool false, .bool false, .bool false, .bool false]] w fun e w' => e = .returned (.bool true) ∧ Fr w.heap.size w w' := by
  have hf := Fr.self w
  go_enter Tryz.func187, Tryz.ntmps187
  go_wp2_with fail
  go_ret
  exact ⟨rfl, by first | exact hf.alloc _ | exact (hf.alloc _).alloc _⟩
set_option maxRecDepth 20000 in
theorem gy_shape {B : Nat} (TA : Option Addr) (tn tc : Nat) (l : List LN) (L : Option Addr) (c : Nat) (w : World) (h : LimAt B w L l) (hB : B ≤ w.heap.size) (hm : l.length ≤ maxLen) (ha : ∀ x ∈ l, x.args.length ≤ 100000) :
    Calls Tryz.prog 155 #[.agg #[.int .i64 2, .string ⟨#[]⟩, .slice TA tn tc, .slice none 0 0, .bool false, .int .i64 0, .slice none 0 0, .slice L l.length c, .bool false, .bool true, .bool false, .bool false, .bool false, .bool false, .bool false, .bool false, .bool false, .bool false]] w fun e w' => e = .returned (.bool (!treeB l)) ∧ Fr w.heap.size w w' := by
  have hf := (Fr.self w).alloc (.cells #[.int .i64 2, .string ⟨#[]⟩, .slice TA tn tc, .slice none 0 0, .bool false, .int .i64 0, .slice none 0 0, .slice L l.length c, .bool false, .bool true, .bool false, .bool false, .bool false, .bool false, .bool false, .bool false, .bool false, .bool false] 175)
  have Hr := Lib.hid (gy_fields TA tn tc L l.length c (w.alloc (.cells #[.int .i64 2, .string ⟨#[]⟩, .slice TA tn tc, .slice none 0 0, .bool false, .int .i64 0, .slice none 0 0, .slice L l.length c, .bool false, .bool true, .bool false, .bool false, .bool false, .bool false, .bool false, .bool false, .bool false, .bool false] 175)))
  have Ht := Lib.hid (fun W (hW : Fr w.heap.size w W) => isTree_any l L c W (h.keep (hW.2.mono hB)) (Nat.le_trans hB hW.2.size) hm ha)
  have c3 : (w.alloc (.cells #[.int .i64 2, .string ⟨#[]⟩, .slice TA tn tc, .slice none 0 0, .bool false, .int .i64 0, .slice none 0 0, .slice L l.length c, .bool false, .bool true, .bool false, .bool false, .bool false, .bool false, .bool false, .bool false, .bool false, .bool false] 175)).cell? ⟨w.heap.size, 3, none⟩ = some (.slice none 0 0) := cell_new w _ _ 3
  have c7 : (w.alloc (.cells #[.int .i64 2, .string ⟨#[]⟩, .slice TA tn tc, .slice none 0 0, .bool false, .int .i64 0, .slice none 0 0, .slice L l.length c, .bool false, .bool true, .bool false, .bool false, .bool false, .bool false, .bool false, .bool false, .bool false, .bool false] 175)).cell? ⟨w.heap.size, 7, none⟩ = some (.slice L l.length c) := cell_new w _ _ 7
  clear h hm ha
  generalize treeB l = r at *
  go_enter Tryz.func155, Tryz.ntmps155
  go_wp2_with fail
  refine (Hr.out).mono ?_
  rintro e w1 ⟨rfl, hf1⟩
  have d3 : w1.cell? ⟨w.heap.size, 3, none⟩ = some (.slice none 0 0) := (hf1.cell (p := ⟨w.heap.size, 3, none⟩) (by simp)).trans c3
  have d7 : w1.cell? ⟨w.heap.size, 7, none⟩ = some (.slice L l.length c) := (hf1.cell (p := ⟨w.heap.size, 7, none⟩) (by simp)).trans c7
  have hsz := hf1.2.size
  have hlt1 : w.heap.size < w1.heap.size := by simp at hsz; omega
  clear c3 c7
  go_wp2_with fail
  refine (Ht.out w1 (hf.trans hf1)).mono ?_
  rintro e w2 ⟨rfl, hf2⟩
  have e3 : w2.cell? ⟨w.heap.size, 3, none⟩ = some (.slice none 0 0) := (hf2.cell (p := ⟨w.heap.size, 3, none⟩) hlt1).trans d3
  clear d3 d7
  cases r with
  | true =>
    go_wp2_with fail
    refine wp_loop_rounds 1 ?_
    rw [rounds_succ]
    go_wp2_with fail
    go_ret
    exact ⟨rfl, (hf.trans hf1).trans hf2⟩
  | false =>
    go_wp2_with fail
    go_ret
    exact ⟨rfl, (hf.trans hf1).trans hf2⟩
theorem gy_names (TA : Option Addr) (tn tc : Nat) (L : Option Addr) (n c : Nat) (w : World) : Calls Tryz.prog 156 #[.agg #[.int .i64 2, .string ⟨#[]⟩, .slice TA tn tc, .slice none 0 0, .bool false, .int .i64 0, .slice none 0 0, .slice L n c, .bool false, .bool true, .bool false, .bool false, .bool false, .bool false, .bool false, .bool false, .bool false, .bool false]] w fun e w' => e = .returned (.bool false) ∧ Fr w.heap.size w w' := by
  have hf := Fr.self w
  go_enter Tryz.func156, Tryz.ntmps156
  go_wp2_with fail
  refine wp_loop_rounds 1 ?_
  rw [rounds_succ]
  go_wp2_with fail
  go_ret
  exact ⟨rfl, by first | exact hf.alloc _ | exact (hf.alloc _).alloc _⟩
theorem gy_twice (TA : Option Addr) (tn tc : Nat) (L : Option Addr) (n c : Nat) (w : World) : Calls Tryz.prog 157 #[.agg #[.int .i64 2, .string ⟨#[]⟩, .slice TA tn tc, .slice none 0 0, .bool false, .int .i64 0, .slice none 0 0, .slice L n c, .bool false, .bool true, .bool false, .bool false, .bool false, .bool false, .bool false, .bool false, .bool false, .bool false]] w fun e w' => e = .returned (.bool false) ∧ Fr w.heap.size w w' := by
  have hf := Fr.self w
  go_enter Tryz.func157, Tryz.ntmps157
  go_wp2_with fail
  refine wp_loop_rounds 1 ?_
  rw [rounds_succ]
  go_wp2_with fail
  go_ret
  exact ⟨rfl, by first | exact hf.alloc _ | exact (hf.alloc _).alloc _⟩
theorem gy_order (TA : Option Addr) (tn tc : Nat) (L : Option Addr) (n c : Nat) (w : World) : Calls Tryz.prog 158 #[.agg #[.int .i64 2, .string ⟨#[]⟩, .slice TA tn tc, .slice none 0 0, .bool false, .int .i64 0, .slice none 0 0, .slice L n c, .bool false, .bool true, .bool false, .bool false, .bool false, .bool false, .bool false, .bool false, .bool false, .bool false]] w fun e w' => e = .returned (.bool false) ∧ Fr w.heap.size w w' := by
  have hf := Fr.self w
  go_enter Tryz.func158, Tryz.ntmps158
  go_wp2_with fail
  refine wp_loop_rounds 1 ?_
  rw [rounds_succ]
  go_wp2_with fail
  go_ret
  exact ⟨rfl, by first | exact hf.alloc _ | exact (hf.alloc _).alloc _⟩
theorem gy_great (TA : Option Addr) (tn tc : Nat) (L : Option Addr) (n c : Nat) (w : World) : Calls Tryz.prog 159 #[.agg #[.int .i64 2, .string ⟨#[]⟩, .slice TA tn tc, .slice none 0 0, .bool false, .int .i64 0, .slice none 0 0, .slice L n c, .bool false, .bool true, .bool false, .bool false, .bool false, .bool false, .bool false, .bool false, .bool false, .bool false]] w fun e w' => e = .returned (.bool false) ∧ Fr w.heap.size w w' := by
  have hf := Fr.self w
  go_enter Tryz.func159, Tryz.ntmps159
  go_wp2_with fail
  refine wp_loop_rounds 1 ?_
  rw [rounds_succ]
  go_wp2_with fail
  go_ret
  exact ⟨rfl, by first | exact hf.alloc _ | exact (hf.alloc _).alloc _⟩
end Go.Proofs.YtgdedcdjfljcnaaGreatDoor
