/- Plain laws: each token of a text is right, and its text alone is read as it. No program is walked here. -/
import Derived.Test.YtknbmnckegonlaaGreatDoorCheckTok
import Derived.Test.YtknbmnckegonlaaGreatDoorTake
namespace Go.Proofs.YtknbmnckegonlaaGreatDoor

theorem pieces_mem (lang : Int) : ∀ (f : Nat) (l : List UInt8) (a : Nat) (p : Pc), p ∈ pieces lang f l a →
    ∃ c t, a ≤ p.fr ∧ l.drop (p.fr - a) = c :: t ∧ (pieceOf lang (c :: t)).err = 0 ∧ p.kind = (pieceOf lang (c :: t)).kind ∧ p.to = p.fr + (pieceOf lang (c :: t)).len
  | 0, l, a, p, h => by simp [pieces] at h
  | f + 1, [], a, p, h => by simp [pieces] at h
  | f + 1, c :: t, a, p, h => by
    rw [pieces] at h
    split at h
    · simp at h
    · rename_i he
      rcases List.mem_cons.1 h with rfl | h
      · exact ⟨c, t, Nat.le_refl _, by simp, by simpa using he, rfl, rfl⟩
      · obtain ⟨c', t', h1, h2, h3, h4, h5⟩ := pieces_mem lang f _ _ p h
        refine ⟨c', t', by omega, ?_, h3, h4, h5⟩
        rw [List.drop_drop] at h2
        rw [← h2]; congr 1; omega
theorem badAt_none : ∀ l : List UInt8, badAt l = none ↔ ∀ c ∈ l, isPermitted c = true
  | [] => by simp [badAt]
  | c :: t => by
    rw [badAt]
    by_cases h : isPermitted c = true
    · rw [if_pos h, Option.map_eq_none_iff, badAt_none t]; simp [h]
    · rw [if_neg h]; simp [h]
theorem pieceOf_kind (lang : Int) (c : UInt8) (t : List UInt8) : 0 ≤ (pieceOf lang (c :: t)).kind := by
  have hd : ∀ ds b, digitsKind lang ds b ≠ -1 → 0 ≤ digitsKind lang ds b := by
    intro ds b h
    unfold digitsKind at h ⊢
    split
    · decide
    · split
      · decide
      · split
        · decide
        · rename_i h1 h2 h3
          rw [if_neg h1, if_neg h2, if_neg h3] at h
          exact absurd rfl h
  rw [pieceOf]
  split
  · simp
  · split
    · cases commentLen lang (c :: t) <;> simp
    · split
      · unfold wordPiece; split
        · simp
        · split <;> simp
      · split
        · unfold numberPiece; split
          · simp
          · split <;> simp
        · split
          · unfold charsPiece
            cases charsEnd ((c :: t).drop 1) with
            | none => simp
            | some n => simp only []; split <;> simp
          · split
            · unfold digitsPiece
              cases closeAt 39 ((c :: t).drop 1) with
              | none => simp
              | some n =>
                simp only []
                split
                · simp
                · split
                  · simp
                  · rename_i h; exact hd _ _ h
            · unfold symbolPiece; split <;> simp
theorem pieces_nil (lang : Int) (a : Nat) : ∀ f, pieces lang f [] a = []
  | 0 => rfl
  | _ + 1 => rfl
theorem pieceErr_nil (lang : Int) (a : Nat) : ∀ f, pieceErr lang f [] a = none
  | 0 => rfl
  | _ + 1 => rfl
/-- A text that is one token. -/
theorem read_one (lang : Int) (hlang : lang = 0 ∨ lang = 1) (x : List UInt8) (hx : x ≠ []) (hlen : x.length ≤ 8000) (hperm : ∀ c ∈ x, isPermitted c = true) (he : (pieceOf lang x).err = 0) (hk : (pieceOf lang x).kind < 7) (hl : (pieceOf lang x).len = x.length) :
    readErr lang x = (0, 0) ∧ outToks lang x = [⟨(pieceOf lang x).kind, x, 0⟩] := by
  obtain ⟨c, t, rfl⟩ : ∃ c t, x = c :: t := by cases x with
    | nil => exact absurd rfl hx
    | cons c t => exact ⟨c, t, rfl⟩
  have hd : (c :: t).drop (pieceOf lang (c :: t)).len = [] := by rw [hl]; simp
  have hp : pieces lang (c :: t).length (c :: t) 0 = [⟨(pieceOf lang (c :: t)).kind, 0, (c :: t).length⟩] := by
    rw [List.length_cons, pieces, if_neg (by simpa using he), hd, pieces_nil, hl, Nat.zero_add, List.length_cons]
  have hpe : pieceErr lang (c :: t).length (c :: t) 0 = none := by
    rw [List.length_cons, pieceErr, if_neg (by simpa using he), hd, pieceErr_nil]
  have hr : readErr lang (c :: t) = (0, 0) := by
    unfold readErr tokPcs
    rw [if_neg (fun h => h hlang), if_neg (by omega), (badAt_none _).2 hperm]
    simp only []
    rw [hpe, hp]
    simp only []
    rw [if_neg (Nat.not_lt.2 (Nat.le_trans (List.length_filter_le _ _) (by simp)))]
  refine ⟨hr, ?_⟩
  unfold outToks outPcs
  rw [if_pos (by rw [hr]), hp]
  simp [isTok, hk, tokOf]
/-- Each token of a text is right. -/
theorem token_right (lang : Int) (l : List UInt8) (t : Tok) (ht : t ∈ outToks lang l) : tokErr lang t = 0 ∧ 0 < t.text.length ∧ ∃ k : Nat, t.pos = k ∧ k + t.text.length ≤ l.length ∧ (l.drop k).take t.text.length = t.text := by
  unfold outToks at ht
  obtain ⟨p, hp, rfl⟩ := List.mem_map.1 ht
  obtain ⟨hp, htk⟩ := List.mem_filter.1 hp
  have hin := outPcs_in hp
  have hok : (readErr lang l).2 = 0 := by
    unfold outPcs at hp
    by_cases h : (readErr lang l).2 = 0
    · exact h
    · rw [if_neg h] at hp; simp at hp
  obtain ⟨hlang, h8, hbad, -, -, -⟩ := readErr_ok hok
  unfold outPcs at hp
  rw [if_pos hok] at hp
  obtain ⟨c, u, -, hd, he, hk, hto⟩ := pieces_mem lang _ _ _ _ hp
  rw [Nat.sub_zero] at hd
  have hln := pieceOf_len lang c u he
  have hk7 : (pieceOf lang (c :: u)).kind < 7 := by rw [← hk]; simpa [isTok] using htk
  have hx : (tokOf l p).text = (c :: u).take (pieceOf lang (c :: u)).len := by
    unfold tokOf
    simp only [hd, hto]
    congr 1; omega
  have htake := pieceOf_take lang c u hk7 he
  have hxl : ((c :: u).take (pieceOf lang (c :: u)).len).length = (pieceOf lang (c :: u)).len := by
    rw [List.length_take, List.length_cons]; omega
  have hdl : (l.drop p.fr).length = u.length + 1 := by rw [hd]; rfl
  rw [List.length_drop] at hdl
  have hperm : ∀ d ∈ (c :: u).take (pieceOf lang (c :: u)).len, isPermitted d = true := fun d hdm =>
    (badAt_none l).1 hbad d (List.mem_of_mem_drop (i := p.fr) (by rw [hd]; exact List.mem_of_mem_take hdm))
  have hone := read_one lang hlang ((c :: u).take (pieceOf lang (c :: u)).len) (fun h => by rw [h] at hxl; simp at hxl; omega) (by omega) hperm (by rw [htake]; exact he) (by rw [htake]; exact hk7) (by rw [htake, hxl])
  rw [htake] at hone
  have hkind : (tokOf l p).kind = (pieceOf lang (c :: u)).kind := hk
  have hk0 := pieceOf_kind lang c u
  have hpos : (tokOf l p).pos = (p.fr : Int) := rfl
  refine ⟨?_, by rw [hx, hxl]; omega, p.fr, rfl, by rw [hx, hxl]; omega, by rw [hx, hxl, hd]⟩
  unfold tokErr
  rw [if_neg (fun h => h hlang), if_neg (by rw [hkind]; omega), if_neg, if_neg (by rw [hpos]; omega)]
  unfold readsAs
  rw [hx, hone.1, hone.2]
  simp [kt, hkind, hx]
end Go.Proofs.YtknbmnckegonlaaGreatDoor
