/- Plain laws: what a piece that is a token has as its text is, alone, read as that piece. No program stands here. -/
import Derived.Test.YtknbmnckegonlaaGreatDoorLexA
namespace Go.Proofs.YtknbmnckegonlaaGreatDoor

theorem wordCont_true {lang : Int} {c : UInt8} {t : List UInt8} (h : wordCont lang (c :: t) = true) (u : List UInt8) (hu : ∀ d r, t = d :: r → ∃ r', u = d :: r') : wordCont lang (c :: u) = true := by
  cases t with
  | nil =>
    by_cases hp : isPart c = true
    · simp [wordCont, hp]
    · by_cases hl : lang = 1
      · simp [wordCont, hp, hl] at h ⊢
        exact h
      · simp [wordCont, hp, hl] at h
  | cons d r =>
    obtain ⟨r', rfl⟩ := hu d r rfl
    exact h
theorem wordTail_take (lang : Int) : ∀ l : List UInt8, wordTail lang (l.take (wordTail lang l)) = wordTail lang l
  | [] => rfl
  | c :: t => by
    have ih := wordTail_take lang t
    by_cases h : wordCont lang (c :: t) = true
    · have e : wordTail lang (c :: t) = wordTail lang t + 1 := by rw [wordTail, if_pos h]
      rw [e, List.take_succ_cons, wordTail]
      by_cases hp : isPart c = true
      · rw [if_pos (by simp [wordCont, hp]), ih]
      · rw [if_pos ?_, ih]
        by_cases hl : lang = 1
        · simp only [wordCont, hl, if_true] at h ⊢
          exact h
        · cases t with
          | nil => simp [wordCont, hl, hp] at h
          | cons d r =>
            have hd : isPart d = true := by
              simp only [wordCont, if_neg hl] at h
              simp [hp] at h; exact h.2
            have e2 : wordTail lang (d :: r) = wordTail lang r + 1 := by rw [wordTail, if_pos (by simp [wordCont, hd])]
            rw [e2, List.take_succ_cons]
            exact wordCont_true h _ (fun d' r' he => by injection he with h1 _; exact ⟨_, by rw [h1]⟩)
    · have e : wordTail lang (c :: t) = 0 := by rw [wordTail, if_neg h]
      rw [e]; rfl
theorem numTail_take : ∀ l : List UInt8, numTail (l.take (numTail l)) = numTail l
  | [] => rfl
  | c :: t => by
    have ih := numTail_take t
    by_cases h : isDigit c = true
    · have e : numTail (c :: t) = numTail t + 1 := by rw [numTail, if_pos h]
      rw [e, List.take_succ_cons, numTail, if_pos h, ih]
    · have e : numTail (c :: t) = 0 := by rw [numTail, if_neg h]
      rw [e]; rfl
theorem charsEnd_take : ∀ (l : List UInt8) (n : Nat), charsEnd l = some n → charsEnd (l.take n) = some n
  | [], n, h => by simp [charsEnd] at h
  | [c], n, h => by
    rw [charsEnd] at h
    split at h
    · rename_i hc; cases h; rw [List.take_succ_cons, List.take_zero, charsEnd, if_pos hc]
    · cases h
  | c :: d :: t, n, h => by
    rw [charsEnd] at h
    split at h
    · rename_i hc
      split at h
      · rename_i hd
        cases he : charsEnd t with
        | none => rw [he] at h; cases h
        | some m =>
          rw [he] at h; cases h
          rw [List.take_succ_cons, List.take_succ_cons, charsEnd, if_pos hc, if_pos hd, charsEnd_take t m he]; rfl
      · cases h; rw [List.take_succ_cons, List.take_zero, charsEnd, if_pos hc]
    · rename_i hc
      split at h
      · cases h
      · rename_i hl
        cases he : charsEnd (d :: t) with
        | none => rw [he] at h; cases h
        | some m =>
          rw [he] at h; cases h
          have ih := charsEnd_take (d :: t) m he
          cases m with
          | zero => rw [List.take_zero] at ih; simp [charsEnd] at ih
          | succ m =>
            rw [List.take_succ_cons] at ih
            rw [List.take_succ_cons, List.take_succ_cons, charsEnd, if_neg hc, if_neg hl, ih]; rfl
theorem closeAt_take (m : Nat) : ∀ (l : List UInt8) (n j : Nat), closeAt m l = some n → closeAt m (l.take (n + 1 + j)) = some n
  | [], n, j, h => by simp [closeAt] at h
  | c :: t, n, j, h => by
    rw [closeAt] at h
    rw [show n + 1 + j = (n + j) + 1 by omega, List.take_succ_cons, closeAt]
    split at h
    · rename_i hc; cases h; rw [if_pos hc]
    · rename_i hc
      split at h
      · cases h
      · rename_i hl
        cases he : closeAt m t with
        | none => rw [he] at h; cases h
        | some k =>
          rw [he] at h; cases h
          rw [if_neg hc, if_neg hl, show k + 1 + j = k + 1 + j from rfl, closeAt_take m t k j he]; rfl
theorem symLen_take (lang : Int) (l : List UInt8) (h : symLen lang l ≠ 0) : symLen lang (l.take (symLen lang l)) = symLen lang l := by
  unfold symLen at h ⊢
  by_cases h3 : 3 ≤ l.length ∧ isSym lang (l.take 3) = true
  · simp only [if_pos h3] at h ⊢
    rw [if_pos ⟨by rw [List.length_take]; omega, by rw [List.take_take]; exact h3.2⟩]
  · by_cases h2 : 2 ≤ l.length ∧ isSym lang (l.take 2) = true
    · simp only [if_neg h3, if_pos h2] at h ⊢
      rw [if_neg (fun hh => by have := hh.1; rw [List.length_take] at this; omega), if_pos ⟨by rw [List.length_take]; omega, by rw [List.take_take]; exact h2.2⟩]
    · by_cases h1 : 1 ≤ l.length ∧ isSym lang (l.take 1) = true
      · simp only [if_neg h3, if_neg h2, if_pos h1] at h ⊢
        rw [if_neg (fun hh => by have := hh.1; rw [List.length_take] at this; omega), if_neg (fun hh => by have := hh.1; rw [List.length_take] at this; omega), if_pos ⟨by rw [List.length_take]; omega, by rw [List.take_take]; exact h1.2⟩]
      · simp only [if_neg h3, if_neg h2, if_neg h1] at h
        exact absurd rfl h
theorem prefix_take {p l : List UInt8} {n : Nat} (h : p.isPrefixOf l = false) : p.isPrefixOf (l.take n) = false := by
  rw [Bool.eq_false_iff] at h ⊢
  intro h2
  exact h (List.isPrefixOf_iff_prefix.2 ((List.isPrefixOf_iff_prefix.1 h2).trans (List.take_prefix _ _)))
theorem begins_take {lang : Int} {l : List UInt8} {n : Nat} (h : begins lang l = false) : begins lang (l.take n) = false := by
  unfold begins at h ⊢
  rw [Bool.or_eq_false_iff] at h ⊢
  exact ⟨prefix_take h.1, prefix_take h.2⟩
/-- A token's text, alone, is read as the token. -/
theorem pieceOf_take (lang : Int) (c : UInt8) (t : List UInt8) (hk : (pieceOf lang (c :: t)).kind < 7) (he : (pieceOf lang (c :: t)).err = 0) :
    pieceOf lang ((c :: t).take (pieceOf lang (c :: t)).len) = pieceOf lang (c :: t) := by
  by_cases h1 : isSpace c = true
  · rw [pieceOf, if_pos h1] at hk; simp at hk
  cases h2 : begins lang (c :: t) with
  | true =>
    rw [pieceOf, if_neg h1, if_pos h2] at hk
    cases hc : commentLen lang (c :: t) with
    | none => rw [hc] at hk; simp at hk
    | some n => rw [hc] at hk; simp at hk
  | false =>
  have hb : ∀ n, begins lang ((c :: t).take n) = false := fun n => begins_take h2
  by_cases h3 : isLetter c = true
  · have e : ∀ u, begins lang (c :: u) = false → pieceOf lang (c :: u) = wordPiece lang (c :: u) := fun u hu => by
      rw [pieceOf, if_neg h1, if_neg (by rw [hu]; simp), if_pos h3]
    rw [e t h2] at he ⊢
    have hw : ∀ u, wordLen lang (c :: u) = wordTail lang u + 1 := fun _ => rfl
    have key : ∀ m, m = wordTail lang t → wordPiece lang (c :: t.take m) = wordPiece lang (c :: t) := by
      intro m hm
      have hwt : wordTail lang (t.take m) = wordTail lang t := by rw [hm]; exact wordTail_take lang t
      unfold wordPiece
      rw [hw, hw, hwt, List.take_succ_cons, List.take_succ_cons, List.take_take, hm, Nat.min_self]
    have hlen : (wordPiece lang (c :: t)).len = wordTail lang t + 1 := by
      unfold wordPiece at he ⊢
      split
      · rename_i h; rw [if_pos h] at he; simp at he
      · split <;> rfl
    rw [hlen, List.take_succ_cons, e _ (by have := hb (wordTail lang t + 1); rwa [List.take_succ_cons] at this)]
    exact key _ rfl
  by_cases h4 : isDigit c = true
  · have e : ∀ u, begins lang (c :: u) = false → pieceOf lang (c :: u) = numberPiece (c :: u) := fun u hu => by
      rw [pieceOf, if_neg h1, if_neg (by rw [hu]; simp), if_neg h3, if_pos h4]
    rw [e t h2] at he ⊢
    have hw : ∀ u, numLen (c :: u) = numTail u + 1 := fun _ => rfl
    have hlen : (numberPiece (c :: t)).len = numTail t + 1 := by
      unfold numberPiece at he ⊢
      split
      · rename_i h; rw [if_pos h] at he; simp at he
      · rename_i h
        rw [if_neg h] at he
        split
        · rename_i h'; rw [if_pos h'] at he; simp at he
        · rfl
    rw [hlen, List.take_succ_cons, e _ (by have := hb (numTail t + 1); rwa [List.take_succ_cons] at this)]
    unfold numberPiece
    rw [hw, hw, numTail_take, List.take_succ_cons, List.take_succ_cons, List.take_take, Nat.min_self]
    rfl
  by_cases h5 : c.toNat = 34
  · have e : ∀ u, begins lang (c :: u) = false → pieceOf lang (c :: u) = charsPiece (c :: u) := fun u hu => by
      rw [pieceOf, if_neg h1, if_neg (by rw [hu]; simp), if_neg h3, if_neg h4, if_pos h5]
    rw [e t h2] at he ⊢
    have hd : ∀ u : List UInt8, (c :: u).drop 1 = u := fun _ => rfl
    cases hc : charsEnd t with
    | none => unfold charsPiece at he; rw [hd, hc] at he; simp at he
    | some n =>
      have hp : ∀ u, charsEnd u = some n → charsPiece (c :: u) = if 201 < n then ⟨0, 0, 2⟩ else ⟨3, n + 1, 0⟩ := fun u hu => by
        unfold charsPiece; rw [hd, hu]
      have hn : ¬ 201 < n := by
        intro h; rw [hp t hc, if_pos h] at he; simp at he
      have hlen : (charsPiece (c :: t)).len = n + 1 := by rw [hp t hc, if_neg hn]
      rw [hlen, List.take_succ_cons, e _ (by have := hb (n + 1); rwa [List.take_succ_cons] at this), hp _ (charsEnd_take t n hc), hp t hc]
  by_cases h6 : c.toNat = 39
  · have e : ∀ u, begins lang (c :: u) = false → pieceOf lang (c :: u) = digitsPiece lang (c :: u) := fun u hu => by
      rw [pieceOf, if_neg h1, if_neg (by rw [hu]; simp), if_neg h3, if_neg h4, if_neg h5, if_pos h6]
    rw [e t h2] at he ⊢
    have hd : ∀ u : List UInt8, (c :: u).drop 1 = u := fun _ => rfl
    cases hc : closeAt 39 t with
    | none => unfold digitsPiece at he; rw [hd, hc] at he; simp at he
    | some n =>
      have hp : ∀ u, closeAt 39 u = some n → digitsPiece lang (c :: u) = if 200 < n then ⟨0, 0, 2⟩ else if digitsKind lang (u.take n) ((c :: u).drop (n + 2)) = -1 then ⟨0, 0, 8⟩ else ⟨digitsKind lang (u.take n) ((c :: u).drop (n + 2)), n + 3, 0⟩ := fun u hu => by
        unfold digitsPiece; rw [hd, hu]
      have hn : ¬ 200 < n := by
        intro h; rw [hp t hc, if_pos h] at he; simp at he
      have hkd : ¬ digitsKind lang (t.take n) ((c :: t).drop (n + 2)) = -1 := by
        intro h; rw [hp t hc, if_neg hn, if_pos h] at he; simp at he
      have hlen : (digitsPiece lang (c :: t)).len = n + 3 := by rw [hp t hc, if_neg hn, if_neg hkd]
      rw [hlen, List.take_succ_cons, e _ (by have := hb (n + 3); rwa [List.take_succ_cons] at this), hp _ (by have := closeAt_take 39 t n 1 hc; exact this), hp t hc]
      have h7 : (t.take (n + 2)).take n = t.take n := by rw [List.take_take]; congr 1; omega
      have h8 : ((c :: t.take (n + 2)).drop (n + 2)) = ((c :: t).drop (n + 2)).take 1 := by
        rw [← List.take_succ_cons, List.drop_take]; congr 1; omega
      have h9 : ∀ b, digitsKind lang (t.take n) (b.take 1) = digitsKind lang (t.take n) b := fun b => by
        unfold digitsKind; cases b <;> rfl
      rw [h7, h8, h9]
  · have e : ∀ u, begins lang (c :: u) = false → pieceOf lang (c :: u) = symbolPiece lang (c :: u) := fun u hu => by
      rw [pieceOf, if_neg h1, if_neg (by rw [hu]; simp), if_neg h3, if_neg h4, if_neg h5, if_neg h6]
    rw [e t h2] at he ⊢
    have hs : symLen lang (c :: t) ≠ 0 := by
      intro h; unfold symbolPiece at he; rw [if_pos h] at he; simp at he
    have hlen : (symbolPiece lang (c :: t)).len = symLen lang (c :: t) := by unfold symbolPiece; rw [if_neg hs]
    obtain ⟨m, hm⟩ : ∃ m, symLen lang (c :: t) = m + 1 := ⟨symLen lang (c :: t) - 1, by omega⟩
    have ht := symLen_take lang (c :: t) hs
    rw [hlen, hm, List.take_succ_cons, e _ (by have := hb (m + 1); rwa [List.take_succ_cons] at this)]
    rw [hm, List.take_succ_cons] at ht
    unfold symbolPiece
    rw [ht, hm]
end Go.Proofs.YtknbmnckegonlaaGreatDoor
