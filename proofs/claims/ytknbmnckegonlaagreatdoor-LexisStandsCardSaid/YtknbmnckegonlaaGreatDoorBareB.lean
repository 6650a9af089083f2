/- Plain laws: what a text is with blanks in the place of its comments; a comment has at least two characters. No program is walked here. -/
import Derived.Test.YtknbmnckegonlaaGreatDoorBare
namespace Go.Proofs.YtknbmnckegonlaaGreatDoor

theorem pieceOf_com (lang : Int) (c : UInt8) (t : List UInt8) (h8 : (pieceOf lang (c :: t)).kind = 8) : (pieceOf lang (c :: t)).err = 0 → 2 ≤ (pieceOf lang (c :: t)).len := by
  have hd : ∀ ds b, digitsKind lang ds b < 7 := by
    intro ds b
    unfold digitsKind
    split
    · decide
    · split
      · decide
      · split <;> decide
  intro he
  by_cases h1 : isSpace c = true
  · rw [pieceOf, if_pos h1] at h8; cases h8
  · by_cases hb : begins lang (c :: t) = true
    · rw [pieceOf, if_neg h1, if_pos hb] at he ⊢
      cases hc : commentLen lang (c :: t) with
      | none => rw [hc] at he; simp at he
      | some n =>
        simp only
        unfold commentLen at hc
        split at hc
        · rw [Option.map_eq_some_iff] at hc
          obtain ⟨m, -, rfl⟩ := hc
          omega
        · injection hc with hc; omega
    · exfalso
      rw [pieceOf, if_neg h1, if_neg hb] at h8
      have : ∀ k : Int, k < 7 → k ≠ 8 := fun k h => by omega
      refine absurd h8 (this _ ?_)
      split
      · unfold wordPiece; split
        · decide
        · split <;> simp
      · split
        · unfold numberPiece; split
          · decide
          · split <;> simp
        · split
          · unfold charsPiece
            cases charsEnd ((c :: t).drop 1) with
            | none => simp
            | some n => simp only []; split <;> simp
          · split
            · unfold digitsPiece
              cases closeAt 39 ((c :: t).drop 1) with
              | none => simp
              | some n =>
                simp only []
                split
                · simp
                · split
                  · simp
                  · exact hd _ _
            · unfold symbolPiece; split <;> simp
theorem coms_in {lang : Int} {l : List UInt8} (h : (readErr lang l).2 = 0) (p : Pc) (hp : p ∈ outComs lang l) : p.fr + 2 ≤ p.to ∧ p.to ≤ l.length := by
  obtain ⟨e, hch⟩ := outPcs_chain h
  obtain ⟨hp1, hp2⟩ := List.mem_filter.1 hp
  refine ⟨?_, (chain_mem _ _ _ hch p hp1).2.2⟩
  rw [e] at hp1
  obtain ⟨c, t, -, -, he, hk, hto⟩ := pieces_mem lang _ _ _ _ hp1
  have h8 : p.kind = 8 := by simpa [isCom] using hp2
  have := pieceOf_com lang c t (hk.symm.trans h8) he
  omega
theorem coms_next {lang : Int} {l : List UInt8} (h : (readErr lang l).2 = 0) (k : Nat) (p q : Pc) (hp : (outComs lang l)[k]? = some p) (hq : (outComs lang l)[k + 1]? = some q) : p.to ≤ q.fr :=
  chain_filter _ _ _ isCom (outPcs_chain h).2 k p q hp hq
/-- The places of the comments that hold no line feed. -/
def barePlace (lang : Int) (l : List UInt8) (i : Nat) : Bool := cov (outComs lang l) i && decide (l[i]? ≠ some 10)
theorem bare_all {lang : Int} {l : List UInt8} (h : (readErr lang l).2 = 0) : (readErr lang (paint (barePlace lang l) l)).2 = 0 ∧ outComs lang (paint (barePlace lang l) l) = [] ∧ outToks lang (paint (barePlace lang l) l) = outToks lang l := by
  generalize hl'e : paint (barePlace lang l) l = l'
  have hlen : l'.length = l.length := by rw [← hl'e, paint_len]
  have hget : ∀ i, l'[i]? = l[i]?.map fun c => if (cov (outComs lang l) i && decide (c ≠ 10)) = true then 32 else c := by
    intro i
    rw [← hl'e, paint_get]
    cases hx : l[i]? with
    | none => rfl
    | some x => simp only [Option.map_some, barePlace, hx, ne_eq, Option.some.injEq]
  clear hl'e
  obtain ⟨hl, h8000, hbad, hpe, h1500, -⟩ := readErr_ok h
  obtain ⟨eP, -⟩ := outPcs_chain h
  have hcov : outComs lang l = (pieces lang l.length l 0).filter isCom := by unfold outComs; rw [eP]
  obtain ⟨b1, b2, b3⟩ := bare_read lang l.length l'.length l l' 0 (Nat.le_refl _) (Nat.le_refl _) hlen hpe (by intro i; rw [hget i, hcov, Nat.zero_add])
  have hbad' : badAt l' = none := (badAt_none _).2 (by
    intro c hc
    obtain ⟨i, hi⟩ := List.getElem?_of_mem hc
    rw [hget i] at hi
    cases hx : l[i]? with
    | none => rw [hx] at hi; cases hi
    | some x =>
      rw [hx, Option.map_some, Option.some.injEq] at hi
      have hp := (badAt_none _).1 hbad x (List.mem_of_getElem? hx)
      split at hi
      · rw [← hi]; rfl
      · rw [← hi]; exact hp)
  have hR : readErr lang l' = (0, 0) := by
    unfold readErr
    rw [if_neg (fun h => h hl), if_neg (by omega), hbad']
    simp only
    rw [b1]
    simp only
    rw [if_neg]
    unfold tokPcs at h1500 ⊢
    rw [b2]; omega
  have eP' : outPcs lang l' = pieces lang l'.length l' 0 := by unfold outPcs; rw [if_pos (by rw [hR])]
  refine ⟨by rw [hR], by unfold outComs; rw [eP', b3], ?_⟩
  unfold outToks
  rw [eP', eP, b2]
  apply List.map_congr_left
  intro p hp
  unfold tokOf
  congr 1
  apply List.ext_getElem?
  intro j
  by_cases hj : j < p.to - p.fr
  · rw [List.getElem?_take_of_lt hj, List.getElem?_take_of_lt hj, List.getElem?_drop, List.getElem?_drop, hget]
    have : cov (outComs lang l) (p.fr + j) = false := by
      cases hc : cov (outComs lang l) (p.fr + j) with
      | false => rfl
      | true => exact (tok_com_apart h (p.fr + j) ((cov_iff _ _).2 ⟨p, by rw [eP]; exact hp, by omega, by omega⟩) hc).elim
    rw [this]
    cases l[p.fr + j]? <;> simp
  · rw [List.getElem?_eq_none (by rw [List.length_take]; omega), List.getElem?_eq_none (by rw [List.length_take]; omega)]
end Go.Proofs.YtknbmnckegonlaaGreatDoor
