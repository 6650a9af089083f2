/- Contracts on texts: which are right, with their lines, and the line and the column of a place. -/
import Derived.Test.YtfmpcchlpplanaaGreatDoorListed
namespace Go.Proofs.YtfmpcchlpplanaaGreatDoor
open Go.RowKit

theorem badAt_lt : ∀ (l : List UInt8) (i : Nat), badAt l = some i → i < l.length
  | [], i, h => by simp [badAt] at h
  | c :: t, i, h => by
    rw [badAt] at h
    split at h
    · cases hb : badAt t with
      | none => rw [hb] at h; cases h
      | some j => rw [hb] at h; cases h; have := badAt_lt t j hb; simp; omega
    · cases h; simp
/-- What CheckText returns. -/
def checkText (l : List UInt8) : Int × Int :=
  if 8000 < l.length then (0, 2) else match badAt l with
    | some i => ((i : Int), 5)
    | none => (1 + (l.count 10 : Nat), 0)
theorem checkText_any (s : ByteArray) (l : List UInt8) (hs : s.data.toList = l) (w : World) (hm : s.size ≤ maxLen) :
    Calls Tryz.prog 47 #[.string s] w fun e w' => e = .returned (.tuple #[.int .i64 (checkText l).1, .int .i64 (checkText l).2]) ∧ w = w' := by
  unfold maxLen at hm
  have hlen := ba_len hs
  by_cases h8 : 8000 < s.size
  · have hv : checkText l = (0, 2) := by unfold checkText; rw [if_pos (by omega)]
    have Hv := Lib.hid hv; clear hv hs hlen
    go_enter Tryz.func47, Tryz.ntmps47
    go_wp2_with fail
    go_ret2
    exact ⟨by rw [Hv.out]; rfl, rfl⟩
  · have hv : checkText l = match badAt l with
      | some i => ((i : Int), 5)
      | none => (1 + (l.count 10 : Nat), 0) := by unfold checkText; rw [if_neg (by omega)]
    have hcnt : l.count 10 ≤ 8000 := by have := List.count_le_length (a := (10 : UInt8)) (l := l); omega
    have Hv := Lib.hid hv; have Hs := Lib.hid hs; clear hv hs hlen
    go_enter Tryz.func47, Tryz.ntmps47
    go_wp2_with fail
    go_loop [10] (fun i => ∃ k : Nat, k ≤ s.size ∧ i = .int .i64 k ∧ Hid (badAt l = (badAt (l.drop k)).map (· + k))) (fun i => s.size - (intOf i).toNat)
    case atStart => exact ⟨0, by omega, rfl, by unfold Hid; simp⟩
    case round =>
      obtain ⟨k, hk, rfl, HR⟩ := hrel
      rcases hd : l.drop k with _ | ⟨c, t⟩
      · have hge := ba_end Hs.out k hd
        have Hd := Lib.hid hd; clear hd
        go_wp2_with (go_at_call 61; refine (same_sym (Tryz.strings_Count_one s 10 _)).mono ?_; rintro e w' ⟨rfl, rfl⟩; rw [Hs.out]; unfold Lib.countByte)
        go_ret2
        exact ⟨by rw [Hv.out, HR.out, Hd.out]; rfl, rfl⟩
      · obtain ⟨hlt, hc, ht⟩ := ba_at Hs.out k hd
        have kp : isPermitted s[k] = isPermitted c := by rw [hc]
        have Hd := Lib.hid hd; have Ht := Lib.hid ht; clear hd ht hc
        rcases hp : isPermitted c with _ | _
        · rw [hp] at kp
          have Hp := Lib.hid hp; clear hp
          go_wp2_with (go_at_call 60; refine (isPermitted_any _ _).mono ?_; rintro e w' ⟨rfl, rfl⟩)
          go_ret2
          exact ⟨by rw [Hv.out, HR.out, Hd.out, badAt, if_neg (by rw [Hp.out]; decide)]; simp, rfl⟩
        · rw [hp] at kp
          have Hp := Lib.hid hp; clear hp
          go_wp2_with (go_at_call 60; refine (isPermitted_any _ _).mono ?_; rintro e w' ⟨rfl, rfl⟩)
          go_round
          case rel =>
            refine ⟨k + 1, by omega, by go_num, ?_⟩
            unfold Hid
            rw [HR.out, Hd.out, badAt, if_pos Hp.out, Ht.out, Option.map_map]
            congr 1; funext x; simp; omega
          case measure => simp [intOf] <;> omega

theorem isLanguage_any (lang : Int) (w : World) :
    Calls Tryz.prog 17 #[.int .i64 lang] w fun e w' => e = .returned (.bool (decide (lang = 0 ∨ lang = 1))) ∧ w = w' := by
  go_enter Tryz.func17, Tryz.ntmps17
  go_wp2
  all_goals (go_ret; exact ⟨ret_bool (by rw [Bool.eq_iff_iff]; simp; omega), rfl⟩)
theorem isToken_any (k a b : Int) (w : World) :
    Calls Tryz.prog 32 #[.agg #[.int .i64 k, .int .i64 a, .int .i64 b]] w fun e w' => e = .returned (.bool (decide (k < 7))) ∧ Fr w.heap.size w w' := by
  have hf := Fr.self w
  go_enter Tryz.func32, Tryz.ntmps32
  go_wp2
  go_ret
  exact ⟨rfl, hf.alloc _⟩
end Go.Proofs.YtfmpcchlpplanaaGreatDoor
