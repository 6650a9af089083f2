/- The reference's small functions over a constraint of whole numbers: About, stands, rangeErr, textErr. The reference's error of a text in a constraint of whole numbers. -/
import Derived.Test.YtgdedcdjfljcnaaGreatDoorM21
import Derived.Test.YtgdedcdjfljcnaaGreatDoorM06
import Derived.BigGuard
namespace Go.Proofs.YtgdedcdjfljcnaaGreatDoor
open Go.RowKit
attribute [local go_sem] undef_bool undef_bool2

theorem about_two (w : World) : Calls Tryz.prog 67 #[.int .i64 2] w fun e w' => e = .returned (.int .i64 1) ∧ w = w' := by
  go_enter Tryz.func67, Tryz.ntmps67
  go_wp2
  go_ret
  exact ⟨rfl, rfl⟩
/-- Whether a node of a kind may stand where something is asked about, as the reference says it. -/
def rStandB (k a : Int) : Bool := if k = 0 then decide (a = 1 ∨ a = 5 ∨ a = 6) else if k = 1 then decide (a = 2 ∨ a = 3 ∨ a = 6) else if k = 2 then decide (a = 2 ∨ a = 3 ∨ a = 4) else if k = 3 then decide (a = 2) else true
theorem rStands_any (k a : Int) (w : World) : Calls Tryz.prog 69 #[.int .i64 k, .int .i64 a] w fun e w' => e = .returned (.bool (rStandB k a)) ∧ w = w' := by
  have hv : rStandB k a = if k = 0 then decide (a = 1 ∨ a = 5 ∨ a = 6) else if k = 1 then decide (a = 2 ∨ a = 3 ∨ a = 6) else if k = 2 then decide (a = 2 ∨ a = 3 ∨ a = 4) else if k = 3 then decide (a = 2) else true := rfl
  generalize rStandB k a = r at *
  have Hv := Lib.hid hv
  clear hv
  go_enter Tryz.func69, Tryz.ntmps69
  go_wp2_with fail
  all_goals
    go_ret
    exact ⟨ret_bool (by rw [Hv.out]; simp_all <;> (rw [Bool.eq_iff_iff]; simp [*])), rfl⟩
theorem mostSize_two (w : World) : Calls Tryz.prog 91 #[.int .i64 2] w fun e w' => e = .returned (.int .i64 200) ∧ w = w' := by
  have hl : ∀ w, Calls Tryz.prog 126 #[.int .i64 2] w fun e w' => e = .returned (.bool false) ∧ w = w' := fun w => by
    go_enter Tryz.func126, Tryz.ntmps126
    go_wp2
    go_ret
    exact ⟨rfl, rfl⟩
  have Hl := Lib.hid hl
  clear hl
  go_enter Tryz.func91, Tryz.ntmps91
  go_wp2_with (go_at_call 126; refine (Hl.out _).mono ?_; rintro e w' ⟨rfl, rfl⟩)
  go_ret
  exact ⟨rfl, rfl⟩
/-- What rangeErr returns. -/
def RErr (about lo hi : Int) (e : Ending) : Prop := ∃ r, e = .returned (.bool r) ∧ (about = 1 → r = false → okB ⟨lo, hi⟩ = true)
theorem RErr.yes {about lo hi : Int} : RErr about lo hi (.returned (.bool true)) := ⟨true, rfl, fun _ h => by cases h⟩
theorem RErr.no {about lo hi : Int} {r : Bool} (h : about ≠ 1 ∨ (lo ≤ hi ∧ -1152921504606846976 ≤ lo ∧ hi ≤ 1152921504606846976)) : RErr about lo hi (.returned (.bool r)) := ⟨r, rfl, fun h1 _ => by
  rcases h with h | h
  · exact absurd h1 h
  · exact decide_eq_true h⟩
theorem rRangeErr (k lo hi : Int) (s : ByteArray) (A : Option Addr) (n c : Nat) (about : Int) (ha : about = 0 ∨ about = 1 ∨ about = 5 ∨ about = 6) (w : World) :
    Calls Tryz.prog 70 #[.agg #[.int .i64 k, .int .i64 lo, .int .i64 hi, .string s, .slice A n c], .int .i64 about, .int .i64 2] w fun e w' => RErr about lo hi e ∧ Fr w.heap.size w w' := by
  have hf := (Fr.self w).alloc (.cells #[.int .i64 k, .int .i64 lo, .int .i64 hi, .string s, .slice A n c] 66)
  have Hm := Lib.hid mostSize_two
  by_cases h1 : hi < lo
  · rcases ha with rfl | rfl | rfl | rfl
    all_goals
      go_enter Tryz.func70, Tryz.ntmps70
      go_wp2_with (first | go_big_skip | (go_at_call 91; refine (Hm.out _).mono ?_; rintro e w' ⟨rfl, rfl⟩))
      go_ret
      exact ⟨RErr.yes, hf⟩
  · by_cases h2 : lo < -1152921504606846976
    · rcases ha with rfl | rfl | rfl | rfl
      all_goals
        go_enter Tryz.func70, Tryz.ntmps70
        go_wp2_with (first | go_big_skip | (go_at_call 91; refine (Hm.out _).mono ?_; rintro e w' ⟨rfl, rfl⟩))
        all_goals
          go_ret
          first | exact ⟨RErr.yes, hf⟩ | exact ⟨RErr.no (.inl (by decide)), hf⟩
    · by_cases h3 : 1152921504606846976 < hi
      · rcases ha with rfl | rfl | rfl | rfl
        all_goals
          go_enter Tryz.func70, Tryz.ntmps70
          go_wp2_with (first | go_big_skip | (go_at_call 91; refine (Hm.out _).mono ?_; rintro e w' ⟨rfl, rfl⟩))
          all_goals
            go_ret
            first | exact ⟨RErr.yes, hf⟩ | exact ⟨RErr.no (.inl (by decide)), hf⟩
      · rcases ha with rfl | rfl | rfl | rfl
        all_goals
          go_enter Tryz.func70, Tryz.ntmps70
          go_wp2_with (first | go_big_skip | (go_at_call 91; refine (Hm.out _).mono ?_; rintro e w' ⟨rfl, rfl⟩))
          all_goals
            go_ret
            first | exact ⟨RErr.no (.inl (by decide)), hf⟩ | exact ⟨RErr.no (.inr (by omega)), hf⟩
theorem alphabet_none (w : World) : Calls Tryz.prog 92 #[.string ⟨#[]⟩] w fun e w' => e = .returned (.slice none 0 0) ∧ w = w' := by
  go_enter Tryz.func92, Tryz.ntmps92
  go_wp2_with fail
  go_ret
  exact ⟨rfl, rfl⟩
theorem alphabet_ia5 (w : World) : Calls Tryz.prog 92 #[.string ⟨#[73, 65, 53, 83, 116, 114, 105, 110, 103]⟩] w fun e w' => e = .returned (.slice (some ⟨w.heap.size, 0, none⟩) 1 1) ∧ SpAt w'.heap.size w' (some ⟨w.heap.size, 0, none⟩) [⟨0, 127⟩] ∧ Fr w.heap.size w w' := by
  go_enter Tryz.func92, Tryz.ntmps92
  go_wp2_with fail
  go_ret
  exact ⟨rfl, .inr ⟨w.heap.size, 0, rfl, by simp, fun j u hu => by rw [Nat.zero_add, cell_new, ← Array.getElem?_toList]; exact hu⟩, (Fr.self w).alloc _⟩
theorem count_any (b : Bool) (w : World) : Calls Tryz.prog 93 #[.bool b] w fun e w' => e = .returned (.int .i64 (if b then 1 else 0)) ∧ w = w' := by
  cases b
  all_goals
    go_enter Tryz.func93, Tryz.ntmps93
    go_wp2
    go_ret
    exact ⟨rfl, rfl⟩
end Go.Proofs.YtgdedcdjfljcnaaGreatDoor
namespace Go.Proofs.YtgdedcdjfljcnaaGreatDoor
open Go.RowKit
attribute [local go_sem] undef_bool undef_bool2

set_option maxRecDepth 100000 in
set_option maxHeartbeats 2000000 in
theorem rTextErr (A1 A2 A3 A4 : Option Addr) (tn ln c1 c2 c3 c4 : Nat) (s : ByteArray) (hs : s.size ≤ 1000) (w : World) :
    Calls Tryz.prog 71 #[.agg #[.int .i64 2, .string ⟨#[]⟩, .slice A1 tn c1, .slice A2 0 c2, .bool false, .int .i64 0, .slice A3 0 c3, .slice A4 ln c4], .string s, .int .i64 6] w fun e w' => (∃ c, e = .returned (.int .i64 c)) ∧ Fr w.heap.size w w' := by
  have hf := (Fr.self w).alloc (.cells #[.int .i64 2, .string ⟨#[]⟩, .slice A1 tn c1, .slice A2 0 c2, .bool false, .int .i64 0, .slice A3 0 c3, .slice A4 ln c4] 28)
  have Ha := Lib.hid alphabet_none; have Hb := Lib.hid alphabet_ia5; have Hc := Lib.hid count_any
  go_enter Tryz.func71, Tryz.ntmps71
  go_wp2_with fail
  refine (Ha.out _).mono ?_
  rintro e w' ⟨rfl, rfl⟩
  go_wp2_with fail
  refine (Hb.out _).mono ?_
  rintro e w1 ⟨rfl, hsp, hf1⟩
  have hF1 := hf.trans hf1
  have hbz : (w.alloc (.cells #[.int .i64 2, .string ⟨#[]⟩, .slice A1 tn c1, .slice A2 0 c2, .bool false, .int .i64 0, .slice A3 0 c3, .slice A4 ln c4] 28)).heap.size = w.heap.size + 1 := by simp
  rw [hbz] at hsp
  have Hin := Lib.hid (fun n W (hW : Below w1.heap.size w1 W) (hz : w1.heap.size ≤ W.heap.size) => (rIn_any (B := w1.heap.size) [⟨0, 127⟩] n (some ⟨w.heap.size + 1, 0, none⟩) 1 W (hsp.keep hW) hz (by simp) : Calls Tryz.prog 13 #[.slice (some ⟨w.heap.size + 1, 0, none⟩) 1 1, .int .i64 n] W fun e w' => e = .returned (.bool (inB [⟨0, 127⟩] n)) ∧ ∃ k, w' = W.drewN k))
  have hs' : s.size ≤ 9223372036854775807 := by omega
  clear hf hf1 hsp hbz
  obtain ⟨b0, hb0⟩ : ∃ x, (s.toList == []) = x := ⟨_, rfl⟩
  go_wp2_with (first | go_big_skip | fail)
  go_loopw [8, 9, 10] (fun u i _ wr => ∃ (m : Nat) (bb : Bool), m ≤ s.size ∧ i = .int .i64 m ∧ u = .bool bb ∧ Fr w.heap.size w wr ∧ Hid (Below w1.heap.size w1 wr)) (fun _ i _ _ => s.size - (intOf i).toNat)
  case atStart => exact ⟨0, _, by omega, by go_num, rfl, hF1, Below.refl _ _⟩
  case round =>
    obtain ⟨m, bb, hm, rfl, rfl, hfr, HB⟩ := hrel
    have hsz := HB.out.size
    by_cases hlt : m < s.size
    · have hm0 : (0 : Int) ≤ m := by omega
      have hm1 : (m : Int) < s.size := by omega
      cases bb with
      | true =>
        go_wp2_with (first | go_big_skip | fail)
        go_roundw
        case rel => exact ⟨m + 1, true, by omega, by go_num, rfl, hfr, HB⟩
        case measure => simp [intOf] <;> omega
      | false =>
        go_wp2_with (go_at_call 13; refine (Hin.out _ _ HB.out hsz).mono ?_; rintro e w2 ⟨rfl, q, rfl⟩)
        go_roundw
        case rel => exact ⟨m + 1, _, by omega, by go_num, rfl, hfr.drewN _, Lib.hid ⟨HB.out.os, HB.out.tape, HB.out.output, HB.out.size, HB.out.block⟩⟩
        case measure => simp [intOf] <;> omega
    · cases bb with
      | true =>
        go_wp2_with (first | go_big_skip | fail)
        go_ret
        exact ⟨⟨_, rfl⟩, hfr⟩
      | false =>
        go_wp2_with (go_at_call 93; refine (Hc.out _ _).mono ?_; rintro e w' ⟨rfl, rfl⟩)
        all_goals
          go_ret
          exact ⟨⟨_, rfl⟩, hfr⟩
end Go.Proofs.YtgdedcdjfljcnaaGreatDoor
