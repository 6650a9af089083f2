/- Plain facts on edges of spans: ascending lists, the edges by putting each in its place and by sorting all; what an operation makes of two sets. -/
import Derived.Test.YtoelifebmhlokaaGreatDoorSApp
import Derived.Lib.SlicesCompact
namespace Go.Proofs.YtoelifebmhlokaaGreatDoor
open Go.RowKit

theorem eq_of_strict : ∀ (l m : List Int), l.Pairwise (· < ·) → m.Pairwise (· < ·) → (∀ x, x ∈ l ↔ x ∈ m) → l = m
  | [], [], _, _, _ => rfl
  | [], y :: t, _, _, h => absurd ((h y).2 (by simp)) (by simp)
  | x :: s, [], _, _, h => absurd ((h x).1 (by simp)) (by simp)
  | x :: s, y :: t, hl, hm, h => by
    rw [List.pairwise_cons] at hl hm
    have hxy : x = y := by
      rcases List.mem_cons.1 ((h x).1 (by simp)) with e | hx
      · exact e
      · rcases List.mem_cons.1 ((h y).2 (by simp)) with e | hy
        · exact e.symm
        · have h1 := hm.1 x hx; have h2 := hl.1 y hy; omega
    subst hxy
    have hst : s = t := eq_of_strict s t hl.2 hm.2 fun z => by
      constructor
      · intro hz
        rcases List.mem_cons.1 ((h z).1 (List.mem_cons_of_mem _ hz)) with e | h1
        · have := hl.1 z hz; omega
        · exact h1
      · intro hz
        rcases List.mem_cons.1 ((h z).2 (List.mem_cons_of_mem _ hz)) with e | h1
        · have := hm.1 z hz; omega
        · exact h1
    rw [hst]
theorem insI_cons (n y : Int) (t : List Int) : insI n (y :: t) = if y < n then y :: insI n t else if y = n then y :: t else n :: y :: t := by
  unfold insI
  rw [posI]
  by_cases h : y < n
  · rw [if_pos h, if_pos h, List.getElem?_cons_succ, List.take_succ_cons, List.drop_succ_cons]
    split <;> rfl
  · rw [if_neg h, if_neg h]
    by_cases h2 : y = n
    · rw [if_pos h2, if_pos (by simp [h2])]
    · rw [if_neg h2, if_neg (by simpa using h2)]; rfl
theorem insI_mem (n : Int) : ∀ (l : List Int) (x : Int), x ∈ insI n l ↔ x = n ∨ x ∈ l
  | [], x => by simp [insI, posI]
  | y :: t, x => by
    rw [insI_cons]
    split
    · rw [List.mem_cons, insI_mem n t x, List.mem_cons]
      constructor
      · rintro (h | h | h)
        · exact .inr (.inl h)
        · exact .inl h
        · exact .inr (.inr h)
      · rintro (h | h | h)
        · exact .inr (.inl h)
        · exact .inl h
        · exact .inr (.inr h)
    · split
      · rename_i h2
        rw [List.mem_cons]
        constructor
        · exact fun h => .inr h
        · rintro (h | h)
          · exact .inl (h.trans h2.symm)
          · exact h
      · rw [List.mem_cons]
theorem insI_strict (n : Int) : ∀ (l : List Int), l.Pairwise (· < ·) → (insI n l).Pairwise (· < ·)
  | [], _ => by simp [insI, posI]
  | y :: t, h => by
    rw [insI_cons]
    rw [List.pairwise_cons] at h
    split
    · rename_i hy
      rw [List.pairwise_cons]
      refine ⟨fun z hz => ?_, insI_strict n t h.2⟩
      rcases (insI_mem n t z).1 hz with e | h1
      · omega
      · exact h.1 z h1
    · split
      · rw [List.pairwise_cons]; exact h
      · rename_i h1 h2
        rw [List.pairwise_cons]
        refine ⟨fun z hz => ?_, List.pairwise_cons.2 h⟩
        rcases List.mem_cons.1 hz with e | h3
        · omega
        · have := h.1 z h3; omega
/-- All ends, as they come. -/
def flatS : List Sp → List Int
  | [] => []
  | s :: t => s.lo :: (s.hi + 1) :: flatS t
theorem flatS_append : ∀ a b : List Sp, flatS (a ++ b) = flatS a ++ flatS b
  | [], b => rfl
  | s :: t, b => by rw [List.cons_append, flatS, flatS, flatS_append t b]; rfl
theorem flatS_length : ∀ a : List Sp, (flatS a).length = 2 * a.length
  | [] => rfl
  | s :: t => by rw [flatS, List.length_cons, List.length_cons, flatS_length t, List.length_cons]; omega
theorem edges_fold (l : List Sp) : ∀ (out : List Int), out.Pairwise (· < ·) → (l.foldl (edge1 2) out).Pairwise (· < ·) ∧ ∀ x, x ∈ l.foldl (edge1 2) out ↔ x ∈ out ∨ x ∈ flatS l := by
  induction l with
  | nil => intro out h; exact ⟨h, fun x => by simp [flatS]⟩
  | cons s t ih =>
    intro out h
    rw [List.foldl_cons]
    obtain ⟨h1, h2⟩ := ih (edge1 2 out s) (insI_strict _ _ (insI_strict _ _ h))
    refine ⟨h1, fun x => ?_⟩
    rw [h2 x]
    show (x ∈ insI (s.hi + 1) (insI s.lo out) ∨ _) ↔ _
    rw [insI_mem, insI_mem, flatS, List.mem_cons, List.mem_cons]
    constructor
    · rintro ((h | h | h) | h)
      · exact .inr (.inr (.inl h))
      · exact .inr (.inl h)
      · exact .inl h
      · exact .inr (.inr (.inr h))
    · rintro (h | h | h | h)
      · exact .inl (.inr (.inr h))
      · exact .inl (.inr (.inl h))
      · exact .inl (.inl h)
      · exact .inr h
theorem edges_strict (l : List Sp) : (edgesL l).Pairwise (· < ·) := (edges_fold l [] List.Pairwise.nil).1
theorem edges_mem (l : List Sp) (x : Int) : x ∈ edgesL l ↔ x ∈ flatS l := by
  have := (edges_fold l [] List.Pairwise.nil).2 x
  unfold edgesL
  simpa using this

theorem compact_asc (d : Array Int) (hd : ∀ i j, i ≤ j → j < d.size → d[i]! ≤ d[j]!) : ∀ m, m ≤ d.size → (Lib.compactUpTo d m).Pairwise (· < ·) ∧ ∀ x, x ∈ Lib.compactUpTo d m ↔ ∃ j, j < m ∧ d[j]! = x := by
  intro m
  induction m with
  | zero => intro _; exact ⟨by simp [Lib.compactUpTo], fun x => by simp [Lib.compactUpTo]⟩
  | succ m ih =>
    intro hm
    obtain ⟨h1, h2⟩ := ih (by omega)
    rw [Lib.compactUpTo_succ]
    by_cases hk : Lib.keeps d m = true
    · rw [if_pos hk]
      refine ⟨?_, fun x => ?_⟩
      · rw [List.pairwise_append]
        refine ⟨h1, by simp, fun x hx y hy => ?_⟩
        rw [List.mem_singleton] at hy
        subst hy
        obtain ⟨j, hj, rfl⟩ := (h2 x).1 hx
        have hne : d[m]! ≠ d[m - 1]! := by
          unfold Lib.keeps at hk
          have := of_decide_eq_true hk
          rcases this with h | h
          · omega
          · exact h
        have a1 := hd j (m - 1) (by omega) (by omega)
        have a2 := hd (m - 1) m (by omega) (by omega)
        omega
      · rw [List.mem_append, h2, List.mem_singleton]
        constructor
        · rintro (⟨j, hj, e⟩ | e)
          · exact ⟨j, by omega, e⟩
          · exact ⟨m, by omega, e.symm⟩
        · rintro ⟨j, hj, e⟩
          by_cases hjm : j = m
          · exact .inr (by rw [← e, hjm])
          · exact .inl ⟨j, by omega, e⟩
    · have hkf : Lib.keeps d m = false := by simpa using hk
      rw [hkf]
      have hm0 : m ≠ 0 := fun h => by subst h; simp [Lib.keeps] at hkf
      have he : d[m]! = d[m - 1]! := by
        unfold Lib.keeps at hkf
        have := of_decide_eq_false hkf
        rcases Int.lt_trichotomy d[m]! d[m - 1]! with h | h | h
        · exact absurd (Or.inr (by omega)) this
        · exact h
        · exact absurd (Or.inr (by omega)) this
      refine ⟨by simpa using h1, fun x => ?_⟩
      simp only [Bool.false_eq_true, if_false, List.append_nil]
      rw [h2]
      constructor
      · rintro ⟨j, hj, e⟩; exact ⟨j, by omega, e⟩
      · rintro ⟨j, hj, e⟩
        by_cases hjm : j = m
        · exact ⟨m - 1, by omega, by rw [← he, ← hjm, e]⟩
        · exact ⟨j, by omega, e⟩
/-- Sorted and without repetitions all ends are the edges. -/
theorem compact_edges (l : List Sp) : Lib.compact ((flatS l).mergeSort fun x y => decide (x ≤ y)) = edgesL l := by
  have hs : ((flatS l).mergeSort fun x y => decide (x ≤ y)).Pairwise fun a b => decide (a ≤ b) = true :=
    List.pairwise_mergeSort (le := fun (x y : Int) => decide (x ≤ y)) (fun a b c h1 h2 => decide_eq_true (by have := of_decide_eq_true h1; have := of_decide_eq_true h2; omega)) (fun a b => by rw [Bool.or_eq_true, decide_eq_true_eq, decide_eq_true_eq]; omega) (flatS l)
  have hp := List.mergeSort_perm (flatS l) fun x y => decide (x ≤ y)
  generalize (flatS l).mergeSort (fun x y => decide (x ≤ y)) = zs at *
  have hd : ∀ i j, i ≤ j → j < zs.toArray.size → zs.toArray[i]! ≤ zs.toArray[j]! := by
    intro i j hij hj
    have hj' : j < zs.length := by simpa using hj
    rw [getElem!_pos zs.toArray i (by simp; omega), getElem!_pos zs.toArray j hj]
    rcases Nat.lt_or_ge i j with h | h
    · have := List.pairwise_iff_getElem.1 hs i j (by omega) hj' h
      simpa using this
    · obtain rfl : i = j := by omega
      exact Int.le_refl _
  obtain ⟨h1, h2⟩ := compact_asc zs.toArray hd zs.length (by simp)
  refine eq_of_strict _ _ h1 (edges_strict l) fun x => ?_
  rw [edges_mem, ← hp.mem_iff]
  show x ∈ Lib.compactUpTo zs.toArray zs.length ↔ _
  rw [h2]
  constructor
  · rintro ⟨j, hj, rfl⟩
    rw [getElem!_pos zs.toArray j (by simpa using hj)]
    simp
  · intro hx
    obtain ⟨j, hj, rfl⟩ := List.getElem_of_mem hx
    exact ⟨j, hj, by rw [getElem!_pos zs.toArray j (by simpa using hj)]; simp⟩

/-- One more span, if its numbers are in what the operation makes. -/
def stepC (op : Int) (a b : List Sp) (out : List Sp) (x y : Int) : List Sp := if isInB op (inB a x) (inB b x) = true then appL out ⟨x, y - 1⟩ else out
def buildC (op : Int) (a b : List Sp) : List Int → List Sp → List Sp
  | [], out => out
  | [_], out => out
  | x :: y :: t, out => buildC op a b (y :: t) (stepC op a b out x y)
/-- What an operation makes of two sets. -/
def combineL (op : Int) (a b : List Sp) : List Sp := buildC op a b (edgesL (a ++ b)) []
theorem flat_in {l : List Sp} (hok : ∀ s ∈ l, okB s = true) : ∀ x ∈ flatS l, -1152921504606846976 ≤ x ∧ x ≤ 1152921504606846977 := by
  induction l with
  | nil => intro x hx; simp [flatS] at hx
  | cons s t ih =>
    intro x hx
    have h := okB_in (hok s (by simp))
    rw [flatS, List.mem_cons, List.mem_cons] at hx
    rcases hx with rfl | rfl | hx
    · omega
    · omega
    · exact ih (fun s hs => hok s (by simp [hs])) x hx
theorem edges_in {l : List Sp} (hok : ∀ s ∈ l, okB s = true) : ∀ x ∈ edgesL l, -1152921504606846976 ≤ x ∧ x ≤ 1152921504606846977 := fun x hx => flat_in hok x ((edges_mem l x).1 hx)
theorem flat_hi {l : List Sp} {s : Sp} (h : s ∈ l) : s.hi + 1 ∈ flatS l := by
  induction l with
  | nil => cases h
  | cons t r ih =>
    rw [flatS]
    rcases List.mem_cons.1 h with rfl | h
    · simp
    · simp [ih h]
/-- The last edge is in none of the spans. -/
theorem last_out {l : List Sp} {k : Nat} {x : Int} (hx : (edgesL l)[k]? = some x) (hl : (edgesL l).length = k + 1) {m : List Sp} (hm : ∀ s ∈ m, s ∈ l) : inB m x = false := by
  unfold inB
  rw [List.any_eq_false]
  intro s hs
  have h1 := (edges_mem l (s.hi + 1)).2 (flat_hi (hm s hs))
  obtain ⟨j, hj, e⟩ := List.getElem_of_mem h1
  obtain ⟨hk, ex⟩ := List.getElem?_eq_some_iff.1 hx
  have hle : s.hi + 1 ≤ x := by
    rcases Nat.lt_or_ge j k with h | h
    · have := List.pairwise_iff_getElem.1 (edges_strict l) j k hj hk h
      omega
    · obtain rfl : j = k := by omega
      omega
  simp; omega
theorem isIn_none (op : Int) : isInB op false false = false := by unfold isInB; split <;> (try split) <;> rfl
theorem stepC_hi {op : Int} {a b out : List Sp} {x y lo hi : Int} (h : ∀ p ∈ out, lo ≤ p.hi ∧ p.hi ≤ hi) (hy : lo ≤ y - 1 ∧ y - 1 ≤ hi) : ∀ p ∈ stepC op a b out x y, lo ≤ p.hi ∧ p.hi ≤ hi := by
  intro p hp
  unfold stepC at hp
  split at hp
  · rcases List.eq_nil_or_concat out with rfl | ⟨o, q, rfl⟩
    · rw [appL_nil, List.mem_singleton] at hp
      subst hp; exact hy
    · rw [List.concat_eq_append] at *
      by_cases he : q.hi + 1 = x
      · rw [appL_join (s := ⟨x, y - 1⟩) he, List.mem_append, List.mem_singleton] at hp
        rcases hp with hp | rfl
        · exact h p (by simp [hp])
        · exact hy
      · rw [appL_apart (s := ⟨x, y - 1⟩) he, List.mem_append, List.mem_singleton] at hp
        rcases hp with hp | rfl
        · exact h p hp
        · exact hy
  · exact h p hp
theorem appL_length (l : List Sp) (s : Sp) : (appL l s).length ≤ l.length + 1 := by
  rcases List.eq_nil_or_concat l with rfl | ⟨o, q, rfl⟩
  · simp [appL_nil]
  · rw [List.concat_eq_append]
    by_cases he : q.hi + 1 = s.lo
    · rw [appL_join he]; simp
    · rw [appL_apart he]; simp
theorem stepC_length {op : Int} {a b out : List Sp} {x y : Int} : (stepC op a b out x y).length ≤ out.length + 1 := by
  unfold stepC
  split
  · exact appL_length _ _
  · omega
theorem buildC_step {op : Int} {a b out : List Sp} {L : List Int} {k : Nat} {x y : Int} (hx : L[k]? = some x) (hy : L[k + 1]? = some y) : buildC op a b (L.drop k) out = buildC op a b (L.drop (k + 1)) (stepC op a b out x y) := by
  obtain ⟨h1, e1⟩ := List.getElem?_eq_some_iff.1 hx
  obtain ⟨h2, e2⟩ := List.getElem?_eq_some_iff.1 hy
  rw [List.drop_eq_getElem_cons h1, List.drop_eq_getElem_cons h2, e1, e2, buildC]
theorem buildC_end {op : Int} {a b out : List Sp} {L : List Int} {k : Nat} (h : L.length ≤ k + 1) : buildC op a b (L.drop k) out = out := by
  have hl : (L.drop k).length ≤ 1 := by rw [List.length_drop]; omega
  rcases hd : L.drop k with _ | ⟨x, _ | ⟨y, t⟩⟩
  · rfl
  · rfl
  · rw [hd] at hl; simp at hl
end Go.Proofs.YtoelifebmhlokaaGreatDoor
