/- Plain laws: a token's text with something behind it that does not belong to it is read as the token. No program stands here. -/
import Derived.Test.YtknbmnckegonlaaGreatDoorTake
namespace Go.Proofs.YtknbmnckegonlaaGreatDoor

theorem wordTail_app (lang : Int) : ∀ (t r : List UInt8), wordTail lang t = t.length → wordCont lang r = false → wordTail lang (t ++ r) = t.length
  | [], r, _, hr => by
    cases r with
    | nil => rfl
    | cons c u => rw [List.nil_append, wordTail, if_neg (by rw [hr]; decide)]; rfl
  | c :: t, r, h, hr => by
    rw [wordTail] at h
    by_cases hc : wordCont lang (c :: t) = true
    · rw [if_pos hc, List.length_cons] at h
      have ih := wordTail_app lang t r (by omega) hr
      rw [List.cons_append, wordTail, if_pos ?_, ih, List.length_cons]
      cases t with
      | nil =>
        refine wordCont_true hc r (fun d r' he => by cases he)
      | cons d u => exact wordCont_true hc _ (fun d' r' he => by injection he with h1 _; exact ⟨u ++ r, by rw [h1]; rfl⟩)
    · rw [if_neg hc] at h; simp at h
theorem wordTail_stop (lang : Int) : ∀ l : List UInt8, wordCont lang (l.drop (wordTail lang l)) = false
  | [] => rfl
  | c :: t => by
    rw [wordTail]
    by_cases hc : wordCont lang (c :: t) = true
    · rw [if_pos hc, List.drop_succ_cons]; exact wordTail_stop lang t
    · rw [if_neg hc, List.drop_zero]; simpa using hc
def digitHead (r : List UInt8) : Bool := match r with | [] => false | d :: _ => isDigit d
theorem numTail_app : ∀ (t r : List UInt8), numTail t = t.length → digitHead r = false → numTail (t ++ r) = t.length
  | [], r, _, hr => by
    cases r with
    | nil => rfl
    | cons c u =>
      have hr' : isDigit c = false := hr
      rw [List.nil_append, numTail, if_neg (by rw [hr']; decide)]; rfl
  | c :: t, r, h, hr => by
    rw [numTail] at h
    by_cases hc : isDigit c = true
    · rw [if_pos hc, List.length_cons] at h
      rw [List.cons_append, numTail, if_pos hc, numTail_app t r (by omega) hr, List.length_cons]
    · rw [if_neg hc] at h; simp at h
theorem numTail_stop : ∀ l : List UInt8, digitHead (l.drop (numTail l)) = false
  | [] => rfl
  | c :: t => by
    rw [numTail]
    by_cases hc : isDigit c = true
    · rw [if_pos hc, List.drop_succ_cons]; exact numTail_stop t
    · rw [if_neg hc, List.drop_zero]
      show isDigit c = false
      simpa using hc
theorem toNat34 (c : UInt8) : c.toNat = 34 ↔ c = 34 := by
  rw [← UInt8.toNat_inj]; rfl
theorem charsEnd_app : ∀ (t r : List UInt8), charsEnd t = some t.length → r.head? ≠ some 34 → charsEnd (t ++ r) = some t.length
  | [], r, h, _ => by simp [charsEnd] at h
  | [c], r, h, hr => by
    rw [charsEnd] at h
    split at h
    · rename_i hc
      cases r with
      | nil => simp [charsEnd, hc]
      | cons d u =>
        have hd : ¬ d.toNat = 34 := fun e => hr (by rw [(toNat34 d).1 e]; rfl)
        rw [List.cons_append, List.nil_append, charsEnd, if_pos hc, if_neg hd]; rfl
    · cases h
  | c :: d :: t, r, h, hr => by
    rw [charsEnd] at h
    rw [List.cons_append, List.cons_append, charsEnd]
    split at h
    · rename_i hc
      rw [if_pos hc]
      split at h
      · rename_i hd
        rw [if_pos hd]
        cases he : charsEnd t with
        | none => rw [he] at h; cases h
        | some m =>
          rw [he] at h
          simp at h
          rw [charsEnd_app t r (by rw [he, h]) hr]; simp
      · simp at h
    · rename_i hc
      rw [if_neg hc]
      split at h
      · cases h
      · rename_i hl
        rw [if_neg hl]
        cases he : charsEnd (d :: t) with
        | none => rw [he] at h; cases h
        | some m =>
          rw [he] at h
          simp at h
          have := charsEnd_app (d :: t) r (by rw [he, h]; rfl) hr
          rw [List.cons_append] at this
          rw [this]; simp
theorem charsEnd_stop : ∀ (l : List UInt8) (n : Nat), charsEnd l = some n → (l.drop n).head? ≠ some 34
  | [], n, h => by simp [charsEnd] at h
  | [c], n, h => by
    rw [charsEnd] at h
    split at h
    · cases h; simp
    · cases h
  | c :: d :: t, n, h => by
    rw [charsEnd] at h
    split at h
    · split at h
      · cases he : charsEnd t with
        | none => rw [he] at h; cases h
        | some m => rw [he] at h; cases h; exact charsEnd_stop t m he
      · rename_i hd
        cases h
        rw [List.drop_succ_cons, List.drop_zero]
        intro e
        injection e with e
        exact hd ((toNat34 d).2 e)
    · split at h
      · cases h
      · cases he : charsEnd (d :: t) with
        | none => rw [he] at h; cases h
        | some m => rw [he] at h; cases h; exact charsEnd_stop (d :: t) m he
theorem closeAt_app (m : Nat) : ∀ (t r : List UInt8) (n : Nat), closeAt m t = some n → closeAt m (t ++ r) = some n
  | [], r, n, h => by simp [closeAt] at h
  | c :: t, r, n, h => by
    rw [closeAt] at h
    rw [List.cons_append, closeAt]
    split at h
    · rename_i hc; rw [if_pos hc]; exact h
    · rename_i hc
      rw [if_neg hc]
      split at h
      · cases h
      · rename_i hl
        rw [if_neg hl]
        cases he : closeAt m t with
        | none => rw [he] at h; cases h
        | some k => rw [he] at h; cases h; rw [closeAt_app m t r k he]; rfl
theorem symLen_app (lang : Int) (x r : List UInt8) (h : symLen lang x = x.length) (h0 : x ≠ []) (hs : ∀ k, x.length < k → k ≤ 3 → k ≤ (x ++ r).length → isSym lang ((x ++ r).take k) = false) : symLen lang (x ++ r) = x.length := by
  have hl : 0 < x.length := List.length_pos_iff.2 h0
  have hx : isSym lang x = true := by
    unfold symLen at h
    split at h
    · rename_i a; have := a.2; rwa [List.take_of_length_le (by omega)] at this
    · split at h
      · rename_i a; have := a.2; rwa [List.take_of_length_le (by omega)] at this
      · split at h
        · rename_i a; have := a.2; rwa [List.take_of_length_le (by omega)] at this
        · omega
  have hle : x.length ≤ 3 := by
    unfold symLen at h
    split at h
    · omega
    · split at h
      · omega
      · split at h <;> omega
  have htk : (x ++ r).take x.length = x := by rw [List.take_append_of_le_length (Nat.le_refl _), List.take_length]
  have hal : x.length ≤ (x ++ r).length := by rw [List.length_append]; omega
  have no : ∀ k, x.length < k → k ≤ 3 → ¬ (k ≤ (x ++ r).length ∧ isSym lang ((x ++ r).take k) = true) := fun k h1 h2 hh => by
    have := hs k h1 h2 hh.1; rw [hh.2] at this; cases this
  unfold symLen
  have : x.length = 1 ∨ x.length = 2 ∨ x.length = 3 := by omega
  rcases this with e | e | e
  · rw [if_neg (no 3 (by omega) (by omega)), if_neg (no 2 (by omega) (by omega)), if_pos ⟨by omega, by rw [← e, htk]; exact hx⟩, e]
  · rw [if_neg (no 3 (by omega) (by omega)), if_pos ⟨by omega, by rw [← e, htk]; exact hx⟩, e]
  · rw [if_pos ⟨by omega, by rw [← e, htk]; exact hx⟩, e]

/-- What is behind a token does not belong to it. -/
structure Stops (lang : Int) (c : UInt8) (t r : List UInt8) : Prop where
  begins : begins lang (c :: (t ++ r)) = false
  word : isLetter c = true → wordCont lang r = false
  num : isDigit c = true → digitHead r = false
  chars : c.toNat = 34 → r.head? ≠ some 34
  sym : isLetter c = false → isDigit c = false → c.toNat ≠ 34 → c.toNat ≠ 39 → ∀ k, t.length + 1 < k → k ≤ 3 → k ≤ (c :: (t ++ r)).length → isSym lang ((c :: (t ++ r)).take k) = false
theorem pieceOf_app (lang : Int) (c : UInt8) (t r : List UInt8) (hk : (pieceOf lang (c :: t)).kind < 7) (he : (pieceOf lang (c :: t)).err = 0) (hl : (pieceOf lang (c :: t)).len = t.length + 1) (hst : Stops lang c t r) :
    pieceOf lang (c :: (t ++ r)) = pieceOf lang (c :: t) := by
  by_cases h1 : isSpace c = true
  · rw [pieceOf, if_pos h1] at hk; simp at hk
  cases h2 : begins lang (c :: t) with
  | true =>
    rw [pieceOf, if_neg h1, if_pos h2] at hk
    cases hc : commentLen lang (c :: t) with
    | none => rw [hc] at hk; simp at hk
    | some n => rw [hc] at hk; simp at hk
  | false =>
  have hb := hst.begins
  by_cases h3 : isLetter c = true
  · have e : ∀ u, begins lang (c :: u) = false → pieceOf lang (c :: u) = wordPiece lang (c :: u) := fun u hu => by
      rw [pieceOf, if_neg h1, if_neg (by rw [hu]; simp), if_pos h3]
    rw [e t h2] at he hl ⊢
    rw [e _ hb]
    have hw : ∀ u, wordLen lang (c :: u) = wordTail lang u + 1 := fun _ => rfl
    have hlen : (wordPiece lang (c :: t)).len = wordTail lang t + 1 := by
      unfold wordPiece at he ⊢
      split
      · rename_i h; rw [if_pos h] at he; simp at he
      · split <;> rfl
    have ht : wordTail lang t = t.length := by omega
    unfold wordPiece
    rw [hw, hw, wordTail_app lang t r ht (hst.word h3), ht, List.take_succ_cons, List.take_succ_cons, List.take_append_of_le_length (Nat.le_refl _)]
  by_cases h4 : isDigit c = true
  · have e : ∀ u, begins lang (c :: u) = false → pieceOf lang (c :: u) = numberPiece (c :: u) := fun u hu => by
      rw [pieceOf, if_neg h1, if_neg (by rw [hu]; simp), if_neg h3, if_pos h4]
    rw [e t h2] at he hl ⊢
    rw [e _ hb]
    have hw : ∀ u, numLen (c :: u) = numTail u + 1 := fun _ => rfl
    have hlen : (numberPiece (c :: t)).len = numTail t + 1 := by
      unfold numberPiece at he ⊢
      split
      · rename_i h; rw [if_pos h] at he; simp at he
      · rename_i h
        rw [if_neg h] at he
        split
        · rename_i h'; rw [if_pos h'] at he; simp at he
        · rfl
    have ht : numTail t = t.length := by omega
    unfold numberPiece
    rw [hw, hw, numTail_app t r ht (hst.num h4), ht, List.take_succ_cons, List.take_succ_cons, List.take_append_of_le_length (Nat.le_refl _)]
    rfl
  by_cases h5 : c.toNat = 34
  · have e : ∀ u, begins lang (c :: u) = false → pieceOf lang (c :: u) = charsPiece (c :: u) := fun u hu => by
      rw [pieceOf, if_neg h1, if_neg (by rw [hu]; simp), if_neg h3, if_neg h4, if_pos h5]
    rw [e t h2] at he hl ⊢
    rw [e _ hb]
    have hd : ∀ u : List UInt8, (c :: u).drop 1 = u := fun _ => rfl
    cases hc : charsEnd t with
    | none => unfold charsPiece at he; rw [hd, hc] at he; simp at he
    | some n =>
      have hp : ∀ u, charsEnd u = some n → charsPiece (c :: u) = if 201 < n then ⟨0, 0, 2⟩ else ⟨3, n + 1, 0⟩ := fun u hu => by
        unfold charsPiece; rw [hd, hu]
      have hn : ¬ 201 < n := by
        intro h; rw [hp t hc, if_pos h] at he; simp at he
      have hlen : (charsPiece (c :: t)).len = n + 1 := by rw [hp t hc, if_neg hn]
      have ht : n = t.length := by omega
      rw [hp t hc, hp _ (by rw [ht]; exact charsEnd_app t r (by rw [← ht]; exact hc) (hst.chars h5))]
  by_cases h6 : c.toNat = 39
  · have e : ∀ u, begins lang (c :: u) = false → pieceOf lang (c :: u) = digitsPiece lang (c :: u) := fun u hu => by
      rw [pieceOf, if_neg h1, if_neg (by rw [hu]; simp), if_neg h3, if_neg h4, if_neg h5, if_pos h6]
    rw [e t h2] at he hl ⊢
    rw [e _ hb]
    have hd : ∀ u : List UInt8, (c :: u).drop 1 = u := fun _ => rfl
    cases hc : closeAt 39 t with
    | none => unfold digitsPiece at he; rw [hd, hc] at he; simp at he
    | some n =>
      have hp : ∀ u, closeAt 39 u = some n → digitsPiece lang (c :: u) = if 200 < n then ⟨0, 0, 2⟩ else if digitsKind lang (u.take n) ((c :: u).drop (n + 2)) = -1 then ⟨0, 0, 8⟩ else ⟨digitsKind lang (u.take n) ((c :: u).drop (n + 2)), n + 3, 0⟩ := fun u hu => by
        unfold digitsPiece; rw [hd, hu]
      have hn : ¬ 200 < n := by
        intro h; rw [hp t hc, if_pos h] at he; simp at he
      have hkd : ¬ digitsKind lang (t.take n) ((c :: t).drop (n + 2)) = -1 := by
        intro h; rw [hp t hc, if_neg hn, if_pos h] at he; simp at he
      have hlen : (digitsPiece lang (c :: t)).len = n + 3 := by rw [hp t hc, if_neg hn, if_neg hkd]
      have ht : n + 2 = t.length := by omega
      rw [hp t hc, hp _ (closeAt_app 39 t r n hc)]
      have h7 : (t ++ r).take n = t.take n := List.take_append_of_le_length (by omega)
      have h9 : ∀ b, digitsKind lang (t.take n) (b.take 1) = digitsKind lang (t.take n) b := fun b => by
        unfold digitsKind; cases b <;> rfl
      have h8 : ((c :: (t ++ r)).drop (n + 2)).take 1 = ((c :: t).drop (n + 2)).take 1 := by
        rw [← List.cons_append, List.drop_append_of_le_length (by rw [List.length_cons]; omega), List.take_append_of_le_length (by rw [List.length_drop, List.length_cons]; omega)]
      have h10 : digitsKind lang (t.take n) ((c :: (t ++ r)).drop (n + 2)) = digitsKind lang (t.take n) ((c :: t).drop (n + 2)) := by
        rw [← h9 ((c :: (t ++ r)).drop (n + 2)), h8, h9]
      rw [h7, h10]
  · have e : ∀ u, begins lang (c :: u) = false → pieceOf lang (c :: u) = symbolPiece lang (c :: u) := fun u hu => by
      rw [pieceOf, if_neg h1, if_neg (by rw [hu]; simp), if_neg h3, if_neg h4, if_neg h5, if_neg h6]
    rw [e t h2] at he hl ⊢
    rw [e _ hb]
    have hs : symLen lang (c :: t) ≠ 0 := by
      intro h; unfold symbolPiece at he; rw [if_pos h] at he; simp at he
    have hlen : (symbolPiece lang (c :: t)).len = symLen lang (c :: t) := by unfold symbolPiece; rw [if_neg hs]
    have ht : symLen lang (c :: t) = (c :: t).length := by rw [List.length_cons]; omega
    have := symLen_app lang (c :: t) r ht (by simp) (by rw [List.length_cons, List.cons_append]; exact hst.sym (by simpa using h3) (by simpa using h4) h5 h6)
    rw [List.cons_append] at this
    unfold symbolPiece
    rw [this, ← ht]
end Go.Proofs.YtknbmnckegonlaaGreatDoor
