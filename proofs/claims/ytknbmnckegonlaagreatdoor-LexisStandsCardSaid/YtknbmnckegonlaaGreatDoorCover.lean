/- Plain laws: the pieces of a text lie side by side, from its beginning to its end; what is no token and no comment is a blank, a tab or a line feed. No program is walked here. -/
import Derived.Test.YtknbmnckegonlaaGreatDoorAlone
namespace Go.Proofs.YtknbmnckegonlaaGreatDoor

/-- Pieces that lie side by side from one place to another one. -/
def Chain : Nat → List Pc → Nat → Prop
  | a, [], b => a = b
  | a, p :: r, b => p.fr = a ∧ a < p.to ∧ Chain p.to r b
theorem pieces_chain (lang : Int) : ∀ (f : Nat) (l : List UInt8) (a : Nat), l.length ≤ f → pieceErr lang f l a = none → Chain a (pieces lang f l a) (a + l.length)
  | 0, l, a, hf, _ => by
    have : l = [] := List.eq_nil_of_length_eq_zero (by omega)
    subst this; rfl
  | f + 1, [], a, _, _ => rfl
  | f + 1, c :: t, a, hf, h => by
    rw [pieceErr] at h
    split at h
    · cases h
    · rename_i he
      have he' : (pieceOf lang (c :: t)).err = 0 := by simpa using he
      have hl := pieceOf_len lang c t he'
      rw [pieces, if_neg he]
      refine ⟨rfl, ?_, ?_⟩
      · show a < a + (pieceOf lang (c :: t)).len; omega
      · have ih := pieces_chain lang f ((c :: t).drop (pieceOf lang (c :: t)).len) (a + (pieceOf lang (c :: t)).len) (by rw [List.length_drop, List.length_cons] at *; omega) h
        have e : a + (pieceOf lang (c :: t)).len + ((c :: t).drop (pieceOf lang (c :: t)).len).length = a + (c :: t).length := by
          rw [List.length_drop, List.length_cons]; omega
        rw [e] at ih
        exact ih
theorem chain_le : ∀ (ps : List Pc) (a b : Nat), Chain a ps b → a ≤ b
  | [], a, b, h => Nat.le_of_eq h
  | p :: r, a, b, h => by have := chain_le r _ _ h.2.2; have := h.2.1; omega
theorem chain_mem : ∀ (ps : List Pc) (a b : Nat), Chain a ps b → ∀ p ∈ ps, a ≤ p.fr ∧ p.fr < p.to ∧ p.to ≤ b
  | [], _, _, _, _, h => by simp at h
  | q :: r, a, b, h, p, hp => by
    have h1 := chain_le r _ _ h.2.2
    rcases List.mem_cons.1 hp with rfl | hp
    · exact ⟨Nat.le_of_eq h.1.symm, by rw [h.1]; exact h.2.1, h1⟩
    · have := chain_mem r _ _ h.2.2 p hp
      have := h.2.1
      omega
/-- Every place lies in a piece. -/
theorem chain_cover : ∀ (ps : List Pc) (a b i : Nat), Chain a ps b → a ≤ i → i < b → ∃ p ∈ ps, p.fr ≤ i ∧ i < p.to
  | [], a, b, i, h, h1, h2 => by have : a = b := h; omega
  | q :: r, a, b, i, h, h1, h2 => by
    by_cases hi : i < q.to
    · exact ⟨q, by simp, by rw [h.1]; exact h1, hi⟩
    · obtain ⟨p, hp, h3⟩ := chain_cover r _ b i h.2.2 (by omega) h2
      exact ⟨p, by simp [hp], h3⟩
/-- No two pieces have a place in common. -/
theorem chain_apart : ∀ (ps : List Pc) (a b i : Nat), Chain a ps b → ∀ p ∈ ps, ∀ q ∈ ps, p.fr ≤ i → i < p.to → q.fr ≤ i → i < q.to → p = q
  | [], _, _, _, _, p, hp, _, _, _, _, _, _ => by simp at hp
  | x :: r, a, b, i, h, p, hp, q, hq, h1, h2, h3, h4 => by
    rcases List.mem_cons.1 hp with e1 | m1 <;> rcases List.mem_cons.1 hq with e2 | m2
    · rw [e1, e2]
    · have := chain_mem r _ _ h.2.2 q m2; rw [e1] at h2; omega
    · have := chain_mem r _ _ h.2.2 p m1; rw [e2] at h4; omega
    · exact chain_apart r _ b i h.2.2 p m1 q m2 h1 h2 h3 h4
/-- A filtered chain goes forward. -/
theorem chain_filter : ∀ (ps : List Pc) (a b : Nat) (keep : Pc → Bool), Chain a ps b → ∀ (k : Nat) (p q : Pc), (ps.filter keep)[k]? = some p → (ps.filter keep)[k + 1]? = some q → p.to ≤ q.fr
  | [], _, _, _, _, k, p, q, h, _ => by simp at h
  | x :: r, a, b, keep, hc, k, p, q, hp, hq => by
    by_cases hx : keep x = true
    · rw [List.filter_cons_of_pos hx] at hp hq
      cases k with
      | zero =>
        simp at hp hq
        subst hp
        have hm : q ∈ r := (List.mem_filter.1 (List.mem_of_getElem? hq)).1
        exact (chain_mem r _ _ hc.2.2 q hm).1
      | succ k =>
        exact chain_filter r _ b keep hc.2.2 k p q (by simpa using hp) (by simpa using hq)
    · rw [List.filter_cons_of_neg hx] at hp hq
      exact chain_filter r _ b keep hc.2.2 k p q hp hq
/-- What a piece is that is no token and no comment. -/
theorem pieceOf_space (lang : Int) (c : UInt8) (t : List UInt8) (h7 : ¬ (pieceOf lang (c :: t)).kind < 7) (h8 : (pieceOf lang (c :: t)).kind ≠ 8) : isSpace c = true ∧ (pieceOf lang (c :: t)).len = 1 := by
  have hd : ∀ ds b, digitsKind lang ds b < 7 := by
    intro ds b
    unfold digitsKind
    split
    · decide
    · split
      · decide
      · split <;> decide
  by_cases h1 : isSpace c = true
  · exact ⟨h1, by rw [pieceOf, if_pos h1]⟩
  · exfalso
    rw [pieceOf, if_neg h1] at h7 h8
    split at h7
    · rename_i hb
      rw [if_pos hb] at h8
      cases hc : commentLen lang (c :: t) with
      | none => rw [hc] at h8; exact h8 rfl
      | some n => rw [hc] at h8; exact h8 rfl
    · clear h8
      apply h7
      split
      · unfold wordPiece; split
        · decide
        · split <;> simp
      · split
        · unfold numberPiece; split
          · decide
          · split <;> simp
        · split
          · unfold charsPiece
            cases charsEnd ((c :: t).drop 1) with
            | none => simp
            | some n => simp only []; split <;> simp
          · split
            · unfold digitsPiece
              cases closeAt 39 ((c :: t).drop 1) with
              | none => simp
              | some n =>
                simp only []
                split
                · simp
                · split
                  · simp
                  · exact hd _ _
            · unfold symbolPiece; split <;> simp
end Go.Proofs.YtknbmnckegonlaaGreatDoor
