/- Plain laws: a piece without an error has at least one character, and no more than there are. -/
import Derived.Test.YtfmpcchlpplanaaGreatDoorPiece
namespace Go.Proofs.YtfmpcchlpplanaaGreatDoor

theorem charsEnd_le : ∀ (l : List UInt8) (n : Nat), charsEnd l = some n → 1 ≤ n ∧ n ≤ l.length
  | [], n, h => by simp [charsEnd] at h
  | [c], n, h => by
    rw [charsEnd] at h
    split at h
    · cases h; simp
    · cases h
  | c :: d :: t, n, h => by
    rw [charsEnd] at h
    split at h
    · split at h
      · cases hc : charsEnd t with
        | none => rw [hc] at h; cases h
        | some m => rw [hc] at h; cases h; have := charsEnd_le t m hc; simp; omega
      · cases h; simp
    · split at h
      · cases h
      · cases hc : charsEnd (d :: t) with
        | none => rw [hc] at h; cases h
        | some m => rw [hc] at h; cases h; have := charsEnd_le (d :: t) m hc; simp at this ⊢; omega
theorem encl_le (nested : Bool) : ∀ (d : Nat) (l : List UInt8) (n : Nat), encl nested d l = some n → n ≤ l.length := by
  intro d l
  induction d, l using encl.induct (nested := nested) with
  | case1 => intro n h; simp [encl] at h
  | case2 => intro n h; simp [encl] at h
  | case3 d c e t h1 h2 => intro n h; rw [encl, if_pos h1, if_pos h2] at h; cases h; simp
  | case4 d c e t h1 h2 ih =>
    intro n h; rw [encl, if_pos h1, if_neg h2] at h
    cases hc : encl nested (d - 1) t with
    | none => rw [hc] at h; cases h
    | some m => rw [hc] at h; cases h; have := ih m hc; simp; omega
  | case5 d c e t h1 h2 ih =>
    intro n h; rw [encl, if_neg h1, if_pos h2] at h
    cases hc : encl nested (d + 1) t with
    | none => rw [hc] at h; cases h
    | some m => rw [hc] at h; cases h; have := ih m hc; simp; omega
  | case6 d c e t h1 h2 ih =>
    intro n h; rw [encl, if_neg h1, if_neg h2] at h
    cases hc : encl nested d (e :: t) with
    | none => rw [hc] at h; cases h
    | some m => rw [hc] at h; cases h; have := ih m hc; simp at this ⊢; omega
theorem lineTail_le (asn : Bool) : ∀ l : List UInt8, lineTail asn l ≤ l.length
  | [] => Nat.le_refl _
  | c :: t => by
    rw [lineTail]
    split
    · simp
    · split
      · rename_i h; rcases t with _ | ⟨d, t⟩
        · simp at h
        · simp
      · have := lineTail_le asn t; simp; omega
theorem begins_len {lang : Int} {l : List UInt8} (hb : begins lang l = true) : 2 ≤ l.length := by
  unfold begins lineMark at hb
  rcases l with _ | ⟨a, _ | ⟨b, r⟩⟩
  · split at hb <;> simp at hb
  · split at hb <;> simp [List.isPrefixOf] at hb
  · simp
theorem pieceOf_len (lang : Int) (c : UInt8) (t : List UInt8) (h : (pieceOf lang (c :: t)).err = 0) : 1 ≤ (pieceOf lang (c :: t)).len ∧ (pieceOf lang (c :: t)).len ≤ t.length + 1 := by
  rw [pieceOf] at h ⊢
  split at h
  · rename_i h1; rw [if_pos h1]; simp
  · rename_i h1; rw [if_neg h1]
    split at h
    · rename_i h2; rw [if_pos h2]
      have h3 := begins_len h2
      simp at h3
      cases hc : commentLen lang (c :: t) with
      | none => rw [hc] at h; simp at h
      | some n =>
        simp only
        unfold commentLen at hc
        split at hc
        · cases he : encl (decide (lang = 0)) 1 ((c :: t).drop 2) with
          | none => rw [he] at hc; cases hc
          | some m => rw [he] at hc; cases hc; have := encl_le _ _ _ _ he; simp at this; simp; omega
        · cases hc; have := lineTail_le (decide (lang = 0)) ((c :: t).drop 2); simp at this ⊢; omega
    · rename_i h2; rw [if_neg h2]
      split at h
      · rename_i h3; rw [if_pos h3]
        have := wordLen_le lang (c :: t) (by simp)
        unfold wordPiece at h ⊢
        split at h
        · simp at h
        · rename_i h4; rw [if_neg h4]
          have h5 : 1 ≤ wordLen lang (c :: t) := by unfold wordLen; omega
          split <;> simp at this ⊢ <;> omega
      · rename_i h3; rw [if_neg h3]
        split at h
        · rename_i h4; rw [if_pos h4]
          have := numLen_le (c :: t) (by simp)
          have h5 : 1 ≤ numLen (c :: t) := by unfold numLen; omega
          unfold numberPiece at h ⊢
          split at h
          · simp at h
          · rename_i h6; rw [if_neg h6]
            split at h
            · simp at h
            · rename_i h7; rw [if_neg h7]; simp at this ⊢; omega
        · rename_i h4; rw [if_neg h4]
          split at h
          · rename_i h5; rw [if_pos h5]
            unfold charsPiece at h ⊢
            simp only [List.drop_succ_cons, List.drop_zero] at h ⊢
            cases hc : charsEnd t with
            | none => rw [hc] at h; simp at h
            | some n =>
              rw [hc] at h
              have := charsEnd_le _ _ hc
              simp only at h ⊢
              split at h
              · simp at h
              · rename_i h6; rw [if_neg h6]; simp; omega
          · rename_i h5; rw [if_neg h5]
            split at h
            · rename_i h6; rw [if_pos h6]
              unfold digitsPiece at h ⊢
              simp only [List.drop_succ_cons, List.drop_zero] at h ⊢
              cases hc : closeAt 39 t with
              | none => rw [hc] at h; simp at h
              | some n =>
                rw [hc] at h
                have := closeAt_lt _ _ _ hc
                simp only at h ⊢
                split at h
                · simp at h
                · rename_i h7; rw [if_neg h7]
                  split at h
                  · simp at h
                  · rename_i h8; rw [if_neg h8]
                    have hb : t.drop (n + 1) ≠ [] := by
                      intro e
                      apply h8
                      unfold digitsKind
                      simp [e]
                    have : n + 1 < t.length := by
                      rcases Nat.lt_or_ge (n + 1) t.length with h9 | h9
                      · exact h9
                      · exact absurd (List.drop_eq_nil_of_le h9) hb
                    simp; omega
            · rename_i h6; rw [if_neg h6]
              unfold symbolPiece at h ⊢
              split at h
              · simp at h
              · rename_i h7; rw [if_neg h7]
                have : symLen lang (c :: t) ≤ (c :: t).length := by
                  unfold symLen
                  split
                  · rename_i h; exact h.1
                  · split
                    · rename_i h; exact h.1
                    · split
                      · rename_i h; exact h.1
                      · exact Nat.zero_le _
                simp at this ⊢; omega
end Go.Proofs.YtfmpcchlpplanaaGreatDoor
