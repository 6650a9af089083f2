/- Plain laws on comments that end with their line. No program stands here. -/
import Derived.Test.YtfmpcchlpplanaaGreatDoorLexA
namespace Go.Proofs.YtfmpcchlpplanaaGreatDoor

/-- The rest of a line. -/
def lineOf (l : List UInt8) : List UInt8 := l.takeWhile (fun c => decide (c ≠ 10))
theorem cut_line : ∀ l : List UInt8, (Lib.cut l [10]).1 = lineOf l := by
  have key : ∀ l : List UInt8, if 0 ≤ Lib.index l [10] then l.take (Lib.index l [10]).toNat = lineOf l else lineOf l = l := by
    intro l
    induction l with
    | nil => simp [Lib.index, lineOf]
    | cons c t ih =>
      have hge := Lib.index_ge t [10]
      by_cases hc : c = 10
      · subst hc; simp [Lib.index, List.isPrefixOf, lineOf]
      · have hp : ([10] : List UInt8).isPrefixOf (c :: t) = false := by
          simp [List.isPrefixOf]; exact fun e => hc e.symm
        have hl : lineOf (c :: t) = c :: lineOf t := by unfold lineOf; rw [List.takeWhile_cons, if_pos (by simpa using hc)]
        by_cases hm : Lib.index t [10] = -1
        · have hi : Lib.index (c :: t) [10] = -1 := by rw [Lib.index, hp]; simp [hm]
          rw [hm] at ih; rw [hi]
          simp at ih ⊢
          rw [hl, ih]
        · have hi : Lib.index (c :: t) [10] = Lib.index t [10] + 1 := by rw [Lib.index, hp]; simp [hm]
          rw [hi]
          rw [if_pos (by omega)] at ih
          rw [if_pos (by omega), hl, ← ih]
          have : (Lib.index t [10] + 1).toNat = (Lib.index t [10]).toNat + 1 := by omega
          rw [this, List.take_succ_cons]
  intro l
  have h := key l
  unfold Lib.cut
  split
  · rename_i hp; rw [if_pos hp] at h; exact h
  · rename_i hp; rw [if_neg hp] at h; exact h.symm
theorem lineTail_plain : ∀ l : List UInt8, lineTail false l = (lineOf l).length
  | [] => rfl
  | c :: t => by
    rw [lineTail]
    by_cases hc : c.toNat = 10
    · have : c = 10 := UInt8.toNat_inj.1 hc
      subst this; simp [lineOf]
    · have hc' : c ≠ 10 := fun e => hc (by rw [e]; rfl)
      have hl : lineOf (c :: t) = c :: lineOf t := by unfold lineOf; rw [List.takeWhile_cons, if_pos (by simpa using hc')]
      rw [if_neg hc, if_neg (by simp), lineTail_plain t, hl, List.length_cons]
theorem lineTail_asn : ∀ l : List UInt8, (lineTail true l : Int) = if 0 ≤ Lib.index (lineOf l) [45, 45] then Lib.index (lineOf l) [45, 45] + 2 else (lineOf l).length
  | [] => by simp [lineTail, lineOf, Lib.index]
  | c :: t => by
    have ih := lineTail_asn t
    rw [lineTail]
    by_cases hc : c.toNat = 10
    · have : c = 10 := UInt8.toNat_inj.1 hc
      subst this; simp [lineOf, Lib.index]
    · have hc' : c ≠ 10 := fun e => hc (by rw [e]; rfl)
      have hl : lineOf (c :: t) = c :: lineOf t := by unfold lineOf; rw [List.takeWhile_cons, if_pos (by simpa using hc')]
      have hge := Lib.index_ge (lineOf t) [45, 45]
      have hh : (lineOf t).head? = some 45 ↔ t.head? = some 45 := by
        cases t with
        | nil => simp [lineOf]
        | cons d r =>
          unfold lineOf
          rw [List.takeWhile_cons]
          by_cases hd : d = 10
          · subst hd; simp
          · rw [if_pos (by simpa using hd)]; simp
      have hp : ([45, 45] : List UInt8).isPrefixOf (c :: lineOf t) = decide (c.toNat = 45 ∧ t.head? = some 45) := by
        rw [Bool.eq_iff_iff, decide_eq_true_eq, ← hh]
        cases lineOf t with
        | nil => simp [List.isPrefixOf]
        | cons d r =>
          have e : (45 = c) ↔ c.toNat = 45 := by rw [← UInt8.toNat_inj]; exact eq_comm
          have e' : (45 = d) ↔ d = 45 := eq_comm
          simp [List.isPrefixOf, e, e']
      rw [if_neg hc, hl]
      by_cases hb : c.toNat = 45 ∧ t.head? = some 45
      · have hi : Lib.index (c :: lineOf t) [45, 45] = 0 := by rw [Lib.index, hp, decide_eq_true hb]; rfl
        rw [if_pos ⟨rfl, hb⟩, hi]; rfl
      · rw [decide_eq_false hb] at hp
        rw [if_neg (fun h => hb h.2)]
        by_cases hm : Lib.index (lineOf t) [45, 45] = -1
        · have hi : Lib.index (c :: lineOf t) [45, 45] = -1 := by rw [Lib.index, hp]; simp [hm]
          rw [hi, if_neg (by decide)]
          rw [hm, if_neg (by decide)] at ih
          rw [List.length_cons]; omega
        · have hi : Lib.index (c :: lineOf t) [45, 45] = Lib.index (lineOf t) [45, 45] + 1 := by rw [Lib.index, hp]; simp [hm]
          rw [if_pos (by omega)] at ih
          rw [hi, if_pos (by omega)]
          omega

end Go.Proofs.YtfmpcchlpplanaaGreatDoor
