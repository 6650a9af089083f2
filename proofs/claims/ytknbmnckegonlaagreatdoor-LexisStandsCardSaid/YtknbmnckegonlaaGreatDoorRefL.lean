/- Plain laws: the longest of some strings with which a text begins; what a piece of the reference must be. No program is walked here. -/
import Derived.Test.YtknbmnckegonlaaGreatDoorRefG
import Derived.Test.YtknbmnckegonlaaGreatDoorLens
import Derived.Test.YtknbmnckegonlaaGreatDoorTake
namespace Go.Proofs.YtknbmnckegonlaaGreatDoor
open Go.RowKit

/-- How long the longest of these strings is with which a text begins. -/
def longP (l : List UInt8) : List (List UInt8) → Nat
  | [] => 0
  | x :: t => max (longP l t) (if x.isPrefixOf l = true then x.length else 0)
/-- The same, from the first one on. -/
def longF (l : List UInt8) (ws : List (List UInt8)) : Nat := ws.foldl (fun a x => max a (if x.isPrefixOf l = true then x.length else 0)) 0
theorem longF_snoc (l : List UInt8) (ws : List (List UInt8)) {k : Nat} {x : List UInt8} (h : ws[k]? = some x) : longF l (ws.take (k + 1)) = max (longF l (ws.take k)) (if x.isPrefixOf l = true then x.length else 0) := by
  rw [List.take_add_one, h]
  simp [longF, List.foldl_append]
theorem maxFold_ge (f : List UInt8 → Nat) : ∀ (ws : List (List UInt8)) (a : Nat), a ≤ ws.foldl (fun a x => max a (f x)) a ∧ (∀ x ∈ ws, f x ≤ ws.foldl (fun a x => max a (f x)) a)
  | [], a => ⟨Nat.le_refl _, fun _ h => by simp at h⟩
  | x :: t, a => by
    have h := maxFold_ge f t (max a (f x))
    refine ⟨by rw [List.foldl_cons]; exact Nat.le_trans (Nat.le_max_left _ _) h.1, fun y hy => ?_⟩
    rw [List.foldl_cons]
    rcases List.mem_cons.1 hy with rfl | hy
    · exact Nat.le_trans (Nat.le_max_right _ _) h.1
    · exact h.2 y hy
theorem maxFold_some (f : List UInt8 → Nat) : ∀ (ws : List (List UInt8)) (a : Nat), ws.foldl (fun a x => max a (f x)) a = a ∨ ∃ x ∈ ws, ws.foldl (fun a x => max a (f x)) a = f x
  | [], a => .inl rfl
  | x :: t, a => by
    rw [List.foldl_cons]
    rcases maxFold_some f t (max a (f x)) with h | ⟨y, hy, h⟩
    · rw [h]
      rcases Nat.le_total a (f x) with h' | h'
      · exact .inr ⟨x, by simp, Nat.max_eq_right h'⟩
      · exact .inl (Nat.max_eq_left h')
    · exact .inr ⟨y, by simp [hy], h⟩
theorem syms_len (lang : Int) : ∀ x ∈ symsOf lang, 1 ≤ x.length ∧ x.length ≤ 3 := by
  unfold symsOf
  split
  · decide
  · decide
theorem putL_mem (x : List UInt8) (ws : List (List UInt8)) (y : List UInt8) : y ∈ putL x ws ↔ y ∈ ws ∨ y = x := by
  unfold putL
  split
  · rename_i h
    constructor
    · exact .inl
    · rintro (h' | rfl)
      · exact h'
      · exact List.mem_of_getElem? h
  · rw [List.mem_append, List.mem_cons]
    constructor
    · rintro (h | rfl | h)
      · exact .inl (List.mem_of_mem_take h)
      · exact .inr rfl
      · exact .inl (List.mem_of_mem_drop h)
    · rintro (h | rfl)
      · rw [← List.take_append_drop (putAt x ws) ws, List.mem_append] at h
        rcases h with h | h
        · exact .inl h
        · exact .inr (.inr h)
      · exact .inr (.inl rfl)
theorem putAll_mem (y : List UInt8) : ∀ (ws acc : List (List UInt8)), y ∈ ws.foldl (fun a x => putL x a) acc ↔ y ∈ acc ∨ y ∈ ws
  | [], acc => by simp
  | x :: t, acc => by
    rw [List.foldl_cons, putAll_mem y t, putL_mem, List.mem_cons, or_assoc]
theorem prefix_eq {x l : List UInt8} (h : x.isPrefixOf l = true) : x = l.take x.length ∧ x.length ≤ l.length := by
  have h' := List.isPrefixOf_iff_prefix.1 h
  exact ⟨List.prefix_iff_eq_take.1 h', h'.length_le⟩
theorem symLen_ge (lang : Int) (l : List UInt8) {n : Nat} (h1 : 1 ≤ n) (h3 : n ≤ 3) (hl : n ≤ l.length) (hs : isSym lang (l.take n) = true) : n ≤ symLen lang l := by
  unfold symLen
  split
  · exact h3
  · rename_i a
    split
    · rcases Nat.lt_or_ge n 3 with h | h
      · omega
      · have : n = 3 := by omega
        subst this; exact absurd ⟨hl, hs⟩ a
    · rename_i b
      split
      · rcases Nat.lt_or_ge n 2 with h | h
        · omega
        · have : n = 2 ∨ n = 3 := by omega
          rcases this with rfl | rfl
          · exact absurd ⟨hl, hs⟩ b
          · exact absurd ⟨hl, hs⟩ a
      · rename_i c
        exfalso
        have : n = 1 ∨ n = 2 ∨ n = 3 := by omega
        rcases this with rfl | rfl | rfl
        · exact c ⟨hl, hs⟩
        · exact b ⟨hl, hs⟩
        · exact a ⟨hl, hs⟩
theorem symLen_is (lang : Int) (l : List UInt8) (h : symLen lang l ≠ 0) : symLen lang l ≤ l.length ∧ isSym lang (l.take (symLen lang l)) = true := by
  unfold symLen at h ⊢
  split
  · rename_i a; exact a
  · split
    · rename_i b; exact b
    · split
      · rename_i c; exact c
      · rename_i a b c; rw [if_neg a, if_neg b, if_neg c] at h; exact absurd rfl h
theorem longF_syms (lang : Int) (l : List UInt8) : longF l (putAll (symsOf lang)) = symLen lang l := by
  have hm : ∀ y, y ∈ putAll (symsOf lang) ↔ y ∈ symsOf lang := fun y => by
    unfold putAll; rw [putAll_mem]; simp
  apply Nat.le_antisymm
  · rcases maxFold_some (fun x => if x.isPrefixOf l = true then x.length else 0) (putAll (symsOf lang)) 0 with h | ⟨x, hx, h⟩
    · have : longF l (putAll (symsOf lang)) = 0 := h
      omega
    · have e : longF l (putAll (symsOf lang)) = if x.isPrefixOf l = true then x.length else 0 := h
      rw [e]
      split
      · rename_i hp
        have hxs := (hm x).1 hx
        have hl := syms_len lang x hxs
        obtain ⟨h1, h2⟩ := prefix_eq hp
        exact symLen_ge lang l hl.1 hl.2 h2 (by rw [← h1]; exact decide_eq_true hxs)
      · exact Nat.zero_le _
  · by_cases h0 : symLen lang l = 0
    · omega
    · obtain ⟨h1, h2⟩ := symLen_is lang l h0
      have hx : l.take (symLen lang l) ∈ putAll (symsOf lang) := (hm _).2 (of_decide_eq_true h2)
      have := (maxFold_ge (fun x => if x.isPrefixOf l = true then x.length else 0) (putAll (symsOf lang)) 0).2 _ hx
      have hp : (l.take (symLen lang l)).isPrefixOf l = true := List.isPrefixOf_iff_prefix.2 (List.take_prefix _ _)
      simp only [hp, if_true] at this
      rw [List.length_take, Nat.min_eq_left h1] at this
      exact this
theorem words_len (lang : Int) : ∀ x ∈ wordsOf lang, x.length ≤ 32 := by
  unfold wordsOf
  split
  · decide +kernel
  · decide +kernel
/-- What the reference's piece is, at a place. -/
def PieceVal (lang : Int) (l : List UInt8) (K : Nat) (v : Value) : Prop :=
  ∃ (k e : Int) (cm : Bool), v = .agg #[.int .i64 k, .int .i64 e, .bool cm, .int .i64 (pieceOf lang (l.drop K)).err] ∧
    ((pieceOf lang (l.drop K)).err = 0 → e = ((K + (pieceOf lang (l.drop K)).len : Nat) : Int) ∧ cm = decide ((pieceOf lang (l.drop K)).kind = 8) ∧ ((pieceOf lang (l.drop K)).kind ≠ 8 → k = (pieceOf lang (l.drop K)).kind))
theorem PieceVal.of {lang : Int} {l : List UInt8} {K : Nat} {P : P1} (hP : pieceOf lang (l.drop K) = P) {k e r : Int} {cm : Bool} (hr : r = P.err) (h : P.err = 0 → e = ((K + P.len : Nat) : Int) ∧ cm = decide (P.kind = 8) ∧ (P.kind ≠ 8 → k = P.kind)) :
    PieceVal lang l K (.agg #[.int .i64 k, .int .i64 e, .bool cm, .int .i64 r]) := by
  subst hP
  exact ⟨k, e, cm, by rw [hr], h⟩
end Go.Proofs.YtknbmnckegonlaaGreatDoor
