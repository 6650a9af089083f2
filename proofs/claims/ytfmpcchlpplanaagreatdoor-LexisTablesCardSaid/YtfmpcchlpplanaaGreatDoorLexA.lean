/- Plain laws: when an item stands in a list that is written as one text; names hold no blank. No program stands here. -/
import Derived.Test.YtfmpcchlpplanaaGreatDoorLex
namespace Go.Proofs.YtfmpcchlpplanaaGreatDoor

theorem contains_cons (b : UInt8) (l sub : List UInt8) : Lib.contains (b :: l) sub = (sub.isPrefixOf (b :: l) || Lib.contains l sub) := by
  unfold Lib.contains
  have h := Lib.index_ge l sub
  rw [Lib.index]
  by_cases hp : sub.isPrefixOf (b :: l) = true
  · simp [hp]
  · rw [if_neg hp]
    have hp' : sub.isPrefixOf (b :: l) = false := Bool.eq_false_iff.2 hp
    rw [hp', Bool.false_or]
    by_cases hm : Lib.index l sub = -1
    · simp [hm]
    · rw [if_neg (by simpa using hm), decide_eq_decide]; omega
theorem contains_skip (sub : List UInt8) : ∀ (w l : List UInt8), (∀ c ∈ w, c ≠ 32) → Lib.contains (w ++ l) (32 :: sub) = Lib.contains l (32 :: sub)
  | [], _, _ => rfl
  | c :: w, l, h => by
    have hc : c ≠ 32 := h c (by simp)
    rw [List.cons_append, contains_cons, contains_skip sub w l (fun d hd => h d (by simp [hd]))]
    have : (32 :: sub).isPrefixOf (c :: (w ++ l)) = false := by
      simp [List.isPrefixOf]
      intro e; exact absurd e.symm hc
    rw [this, Bool.false_or]
theorem prefix_blank : ∀ (it w F : List UInt8), (∀ c ∈ it, c ≠ 32) → (∀ c ∈ w, c ≠ 32) → (it ++ [32]).isPrefixOf (w ++ 32 :: F) = decide (it = w)
  | [], [], F, _, _ => by simp
  | [], d :: w, F, _, hw => by
    have : d ≠ 32 := hw d (by simp)
    simp [List.isPrefixOf]
    intro e; exact absurd e.symm this
  | c :: it, [], F, hi, _ => by
    have : c ≠ 32 := hi c (by simp)
    simp [List.isPrefixOf, this]
  | c :: it, d :: w, F, hi, hw => by
    have ih := prefix_blank it w F (fun x hx => hi x (by simp [hx])) (fun x hx => hw x (by simp [hx]))
    rw [List.cons_append, List.cons_append, List.isPrefixOf, ih, Bool.eq_iff_iff]
    simp
theorem contains_listT : ∀ (ws : List (List UInt8)) (it : List UInt8), (∀ w ∈ ws, ∀ c ∈ w, c ≠ 32) → (∀ c ∈ it, c ≠ 32) → Lib.contains (listT ws) (32 :: (it ++ [32])) = decide (it ∈ ws)
  | [], it, _, _ => by
    unfold listT
    rw [List.flatMap_nil, contains_cons]
    simp [List.isPrefixOf, Lib.contains, Lib.index]
  | w :: ws, it, hw, hi => by
    have ih := contains_listT ws it (fun x hx => hw x (by simp [hx])) hi
    unfold listT at ih ⊢
    have hww := hw w (by simp)
    rw [List.flatMap_cons, contains_cons, List.append_assoc, List.singleton_append, contains_skip _ w _ hww, ih]
    have : (32 :: (it ++ [32])).isPrefixOf (32 :: (w ++ 32 :: ws.flatMap (· ++ [32]))) = decide (it = w) := by
      rw [List.isPrefixOf, prefix_blank it w _ hi hww]; simp
    rw [this, Bool.eq_iff_iff]
    simp

theorem words_blank (lang : Int) : ∀ w ∈ wordsOf lang, ∀ c ∈ w, c ≠ 32 := by
  unfold wordsOf; split <;> decide +kernel
theorem syms_blank (lang : Int) : ∀ w ∈ symsOf lang, ∀ c ∈ w, c ≠ 32 := by
  unfold symsOf; split <;> decide +kernel
theorem isWord_listed (lang : Int) (it : List UInt8) (hi : ∀ c ∈ it, c ≠ 32) : Lib.contains (listT (wordsOf lang)) (32 :: (it ++ [32])) = isWord lang it :=
  contains_listT _ _ (words_blank lang) hi
theorem isSym_listed (lang : Int) (it : List UInt8) (hi : ∀ c ∈ it, c ≠ 32) : Lib.contains (listT (symsOf lang)) (32 :: (it ++ [32])) = isSym lang it :=
  contains_listT _ _ (syms_blank lang) hi

theorem isLetter_ne {c : UInt8} (h : isLetter c = true) : c ≠ 32 := by
  rintro rfl; revert h; decide
theorem wordCont_ne {lang : Int} {c : UInt8} {t : List UInt8} (h : wordCont lang (c :: t) = true) : c ≠ 32 := by
  rintro rfl
  have h1 : isPart 32 = false := by decide
  cases t <;> simp [wordCont, h1] at h <;> split at h <;> simp at h
theorem wordTail_ne (lang : Int) : ∀ l : List UInt8, ∀ c ∈ l.take (wordTail lang l), c ≠ 32
  | [], c, h => by simp at h
  | d :: t, c, h => by
    rw [wordTail] at h
    split at h
    · rename_i hc
      rw [List.take_succ_cons, List.mem_cons] at h
      rcases h with rfl | h
      · exact wordCont_ne hc
      · exact wordTail_ne lang t c h
    · simp at h
theorem wordLen_ne {lang : Int} {d : UInt8} {t : List UInt8} (hd : isLetter d = true) : ∀ c ∈ (d :: t).take (wordLen lang (d :: t)), c ≠ 32 := by
  intro c h
  unfold wordLen at h
  rw [List.drop_succ_cons, List.drop_zero, List.take_succ_cons, List.mem_cons] at h
  rcases h with rfl | h
  · exact isLetter_ne hd
  · exact wordTail_ne lang t c h

theorem wordTail_le (lang : Int) : ∀ l : List UInt8, wordTail lang l ≤ l.length
  | [] => Nat.le_refl _
  | c :: t => by
    rw [wordTail]
    split
    · have := wordTail_le lang t; simp; omega
    · exact Nat.zero_le _
theorem wordLen_le (lang : Int) (l : List UInt8) (h : 0 < l.length) : wordLen lang l ≤ l.length := by
  unfold wordLen
  have := wordTail_le lang (l.drop 1)
  rw [List.length_drop] at this
  omega
end Go.Proofs.YtfmpcchlpplanaaGreatDoor
