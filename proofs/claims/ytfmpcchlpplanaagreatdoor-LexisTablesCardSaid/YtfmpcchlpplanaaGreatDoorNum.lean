/- Plain laws on numbers: what strconv.ParseInt gives of digits. No program stands here. -/
import Derived.Test.YtfmpcchlpplanaaGreatDoorLex
import Derived.Lib.ParseIntB
namespace Go.Proofs.YtfmpcchlpplanaaGreatDoor

theorem fold_ge : ∀ (l : List UInt8) (a : Nat), a ≤ l.foldl (fun n c => 10 * n + (c.toNat - 48)) a
  | [], a => Nat.le_refl _
  | c :: t, a => by
    rw [List.foldl_cons]
    have := fold_ge t (10 * a + (c.toNat - 48))
    omega
theorem parseUintM_dec (M : Nat) (hM : M = 18446744073709551615) : ∀ (l : List UInt8) (a : Nat), (∀ c ∈ l, isDigit c = true) → a ≤ M →
    Lib.parseUintM M a l = if l.foldl (fun n c => 10 * n + (c.toNat - 48)) a ≤ M then .ok (l.foldl (fun n c => 10 * n + (c.toNat - 48)) a) else .range
  | [], a, _, ha => by rw [Lib.parseUintM, List.foldl_nil, if_pos ha]
  | c :: t, a, h, ha => by
    have hc := h c (by simp)
    have hg := fold_ge t (10 * a + (c.toNat - 48))
    rw [isDigit, decide_eq_true_eq] at hc
    rw [Lib.parseUintM, if_pos hc, List.foldl_cons]
    have e : a * 10 + (c.toNat - 48) = 10 * a + (c.toNat - 48) := by omega
    rw [e]
    by_cases h1 : 1844674407370955162 ≤ a
    · rw [if_pos h1, if_neg (by omega)]
    · rw [if_neg h1]
      by_cases h2 : M < 10 * a + (c.toNat - 48)
      · rw [if_pos h2, if_neg (by omega)]
      · rw [if_neg h2, parseUintM_dec M hM t _ (fun x hx => h x (by simp [hx])) (by omega)]
theorem parse_dec (l : List UInt8) (hne : l ≠ []) (hd : ∀ c ∈ l, isDigit c = true) :
    Lib.parseIntB 64 l = if decVal l < 9223372036854775808 then .ok (decVal l : Int) else .range := by
  rcases l with _ | ⟨c, t⟩
  · exact absurd rfl hne
  · have hc := hd c (by simp)
    rw [isDigit, decide_eq_true_eq] at hc
    have h1 : ¬ (c.toNat = 43 ∨ c.toNat = 45) := by omega
    have h2 : ¬ c.toNat = 45 := by omega
    have hp := parseUintM_dec (2 ^ 64 - 1) (by decide) (c :: t) 0 hd (by omega)
    have hu : Lib.parseUintB 64 (c :: t) = if decVal (c :: t) ≤ 2 ^ 64 - 1 then .ok (decVal (c :: t)) else .range := by
      rw [Lib.parseUintB, if_neg (by simp)]; exact hp
    simp only [Lib.parseIntB, if_neg h1, hu]
    by_cases hb : decVal (c :: t) ≤ 2 ^ 64 - 1
    · rw [if_pos hb]
      simp only [h2, not_false_eq_true, true_and, false_and, if_false]
      by_cases hs : decVal (c :: t) < 9223372036854775808
      · rw [if_neg (by omega), if_pos hs]
      · rw [if_pos (by omega), if_neg hs]
    · rw [if_neg hb]
      simp only
      rw [if_neg (by omega)]

theorem numTail_le : ∀ l : List UInt8, numTail l ≤ l.length
  | [] => Nat.le_refl _
  | c :: t => by
    rw [numTail]
    split
    · have := numTail_le t; simp; omega
    · exact Nat.zero_le _
theorem numLen_le (l : List UInt8) (h : 0 < l.length) : numLen l ≤ l.length := by
  unfold numLen
  have := numTail_le (l.drop 1)
  rw [List.length_drop] at this
  omega
theorem numTail_digits : ∀ l : List UInt8, ∀ c ∈ l.take (numTail l), isDigit c = true
  | [], c, h => by simp at h
  | d :: t, c, h => by
    rw [numTail] at h
    split at h
    · rename_i hc
      rw [List.take_succ_cons, List.mem_cons] at h
      rcases h with rfl | h
      · exact hc
      · exact numTail_digits t c h
    · simp at h
theorem numLen_digits {d : UInt8} {t : List UInt8} (hd : isDigit d = true) : ∀ c ∈ (d :: t).take (numLen (d :: t)), isDigit c = true := by
  intro c h
  unfold numLen at h
  rw [List.drop_succ_cons, List.drop_zero, List.take_succ_cons, List.mem_cons] at h
  rcases h with rfl | h
  · exact hd
  · exact numTail_digits t c h
end Go.Proofs.YtfmpcchlpplanaaGreatDoor
