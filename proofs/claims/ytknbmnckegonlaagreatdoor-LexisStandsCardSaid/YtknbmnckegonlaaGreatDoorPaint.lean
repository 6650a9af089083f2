/- Plain laws: a text with blanks in the place of its tokens and comments is white. No program is walked here. -/
import Derived.Test.YtknbmnckegonlaaGreatDoorCover
import Derived.Test.YtknbmnckegonlaaGreatDoorComs
namespace Go.Proofs.YtknbmnckegonlaaGreatDoor

/-- A text with blanks at some places. -/
def paint (S : Nat → Bool) (l : List UInt8) : List UInt8 := l.mapIdx fun i c => if S i = true then 32 else c
theorem paint_len (S : Nat → Bool) (l : List UInt8) : (paint S l).length = l.length := by simp [paint]
theorem paint_get (S : Nat → Bool) (l : List UInt8) (i : Nat) : (paint S l)[i]? = l[i]?.map fun c => if S i = true then 32 else c := by
  simp [paint]
theorem paint_none (l : List UInt8) : paint (fun _ => false) l = l := by
  apply List.ext_getElem?
  intro i
  rw [paint_get]
  cases l[i]? <;> simp
theorem paint_set (S : Nat → Bool) (l : List UInt8) (k : Nat) : (paint S l).set k 32 = paint (fun i => S i || decide (i = k)) l := by
  apply List.ext_getElem?
  intro i
  rw [paint_get, List.getElem?_set, paint_get, paint_len]
  by_cases h : k = i
  · subst h
    by_cases hl : k < l.length
    · rw [if_pos rfl, if_pos hl, List.getElem?_eq_getElem hl]; simp
    · rw [if_pos rfl, if_neg hl, List.getElem?_eq_none (by omega)]; rfl
  · rw [if_neg h]
    have : decide (i = k) = false := decide_eq_false (fun e => h e.symm)
    simp [this]
/-- Does a piece of these hold a place? -/
def cov (ps : List Pc) (i : Nat) : Bool := ps.any fun p => decide (p.fr ≤ i ∧ i < p.to)
theorem cov_iff (ps : List Pc) (i : Nat) : cov ps i = true ↔ ∃ p ∈ ps, p.fr ≤ i ∧ i < p.to := by
  simp [cov]
theorem outPcs_chain {lang : Int} {l : List UInt8} (h : (readErr lang l).2 = 0) : outPcs lang l = pieces lang l.length l 0 ∧ Chain 0 (outPcs lang l) l.length := by
  have hok := readErr_ok h
  have e : outPcs lang l = pieces lang l.length l 0 := by unfold outPcs; rw [if_pos h]
  refine ⟨e, ?_⟩
  rw [e]
  have := pieces_chain lang l.length l 0 (Nat.le_refl _) hok.2.2.2.1
  rwa [Nat.zero_add] at this
/-- What is in no token and in no comment is white. -/
theorem white_rest {lang : Int} {l : List UInt8} (h : (readErr lang l).2 = 0) (i : Nat) (c : UInt8) (hc : l[i]? = some c) (h1 : cov ((outPcs lang l).filter isTok) i = false) (h2 : cov (outComs lang l) i = false) : isSpace c = true := by
  obtain ⟨e, hch⟩ := outPcs_chain h
  have hi : i < l.length := by
    rcases Nat.lt_or_ge i l.length with h | h
    · exact h
    · rw [List.getElem?_eq_none h] at hc; cases hc
  obtain ⟨p, hp, hp1, hp2⟩ := chain_cover _ 0 l.length i hch (Nat.zero_le _) hi
  have hp' := hp
  rw [e] at hp'
  obtain ⟨d, t, -, hd, he, hk, hto⟩ := pieces_mem lang _ _ _ _ hp'
  rw [Nat.sub_zero] at hd
  have n7 : ¬ (pieceOf lang (d :: t)).kind < 7 := by
    intro h7
    have : cov ((outPcs lang l).filter isTok) i = true := (cov_iff _ _).2 ⟨p, List.mem_filter.2 ⟨hp, by simp [isTok, hk, h7]⟩, hp1, hp2⟩
    rw [h1] at this; cases this
  have n8 : (pieceOf lang (d :: t)).kind ≠ 8 := by
    intro h8
    have : cov (outComs lang l) i = true := (cov_iff _ _).2 ⟨p, List.mem_filter.2 ⟨hp, by simp [isCom, hk, h8]⟩, hp1, hp2⟩
    rw [h2] at this; cases this
  obtain ⟨h9, h10⟩ := pieceOf_space lang d t n7 n8
  have : i = p.fr := by omega
  subst this
  have hh : l[p.fr]? = some d := by
    have := congrArg (fun x => x[0]?) hd
    simpa using this
  rw [hc] at hh
  injection hh with hh
  rw [hh]; exact h9
/-- A token and a comment have no place in common. -/
theorem tok_com_apart {lang : Int} {l : List UInt8} (h : (readErr lang l).2 = 0) (i : Nat) (h1 : cov ((outPcs lang l).filter isTok) i = true) (h2 : cov (outComs lang l) i = true) : False := by
  obtain ⟨-, hch⟩ := outPcs_chain h
  obtain ⟨p, hp, p1, p2⟩ := (cov_iff _ _).1 h1
  obtain ⟨q, hq, q1, q2⟩ := (cov_iff _ _).1 h2
  obtain ⟨hp, hpt⟩ := List.mem_filter.1 hp
  obtain ⟨hq, hqt⟩ := List.mem_filter.1 hq
  have := chain_apart _ 0 l.length i hch p hp q hq p1 p2 q1 q2
  subst this
  simp [isTok] at hpt
  simp [isCom] at hqt
  omega
end Go.Proofs.YtknbmnckegonlaaGreatDoor
