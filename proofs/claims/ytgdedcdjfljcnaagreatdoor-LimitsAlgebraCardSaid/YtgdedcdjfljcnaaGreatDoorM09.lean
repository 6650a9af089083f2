/- Plain facts on edges of spans: ascending lists, the edges by putting each in its place and by sorting all; what an operation makes of two sets. Nodes of constraints: how they lie in memory; small functions over their kinds. Tags in memory. -/
import Derived.Test.YtgdedcdjfljcnaaGreatDoorM08
import Derived.Lib.SlicesCompact
import Derived.Test.YtgdedcdjfljcnaaGreatDoorM02
namespace Go.Proofs.YtgdedcdjfljcnaaGreatDoor
open Go.RowKit

theorem eq_of_strict : ∀ (l m : List Int), l.Pairwise (· < ·) → m.Pairwise (· < ·) → (∀ x, x ∈ l ↔ x ∈ m) → l = m
  | [], [], _, _, _ => rfl
  | [], y :: t, _, _, h => absurd ((h y).2 (by simp)) (by simp)
  | x :: s, [], _, _, h => absurd ((h x).1 (by simp)) (by simp)
  | x :: s, y :: t, hl, hm, h => by
    rw [List.pairwise_cons] at hl hm
    have hxy : x = y := by
      rcases List.mem_cons.1 ((h x).1 (by simp)) with e | hx
      · exact e
      · rcases List.mem_cons.1 ((h y).2 (by simp)) with e | hy
        · exact e.symm
        · have h1 := hm.1 x hx; have h2 := hl.1 y hy; omega
    subst hxy
    have hst : s = t := eq_of_strict s t hl.2 hm.2 fun z => by
      constructor
      · intro hz
        rcases List.mem_cons.1 ((h z).1 (List.mem_cons_of_mem _ hz)) with e | h1
        · have := hl.1 z hz; omega
        · exact h1
      · intro hz
        rcases List.mem_cons.1 ((h z).2 (List.mem_cons_of_mem _ hz)) with e | h1
        · have := hm.1 z hz; omega
        · exact h1
    rw [hst]
theorem insI_cons (n y : Int) (t : List Int) : insI n (y :: t) = if y < n then y :: insI n t else if y = n then y :: t else n :: y :: t := by
  unfold insI
  rw [posI]
  by_cases h : y < n
  · rw [if_pos h, if_pos h, List.getElem?_cons_succ, List.take_succ_cons, List.drop_succ_cons]
    split <;> rfl
  · rw [if_neg h, if_neg h]
    by_cases h2 : y = n
    · rw [if_pos h2, if_pos (by simp [h2])]
    · rw [if_neg h2, if_neg (by simpa using h2)]; rfl
theorem insI_mem (n : Int) : ∀ (l : List Int) (x : Int), x ∈ insI n l ↔ x = n ∨ x ∈ l
  | [], x => by simp [insI, posI]
  | y :: t, x => by
    rw [insI_cons]
    split
    · rw [List.mem_cons, insI_mem n t x, List.mem_cons]
      constructor
      · rintro (h | h | h)
        · exact .inr (.inl h)
        · exact .inl h
        · exact .inr (.inr h)
      · rintro (h | h | h)
        · exact .inr (.inl h)
        · exact .inl h
        · exact .inr (.inr h)
    · split
      · rename_i h2
        rw [List.mem_cons]
        constructor
        · exact fun h => .inr h
        · rintro (h | h)
          · exact .inl (h.trans h2.symm)
          · exact h
      · rw [List.mem_cons]
theorem insI_strict (n : Int) : ∀ (l : List Int), l.Pairwise (· < ·) → (insI n l).Pairwise (· < ·)
  | [], _ => by simp [insI, posI]
  | y :: t, h => by
    rw [insI_cons]
    rw [List.pairwise_cons] at h
    split
    · rename_i hy
      rw [List.pairwise_cons]
      refine ⟨fun z hz => ?_, insI_strict n t h.2⟩
      rcases (insI_mem n t z).1 hz with e | h1
      · omega
      · exact h.1 z h1
    · split
      · rw [List.pairwise_cons]; exact h
      · rename_i h1 h2
        rw [List.pairwise_cons]
        refine ⟨fun z hz => ?_, List.pairwise_cons.2 h⟩
        rcases List.mem_cons.1 hz with e | h3
        · omega
        · have := h.1 z h3; omega
/-- All ends, as they come. -/
def flatS : List Sp → List Int
  | [] => []
  | s :: t => s.lo :: (s.hi + 1) :: flatS t
theorem flatS_append : ∀ a b : List Sp, flatS (a ++ b) = flatS a ++ flatS b
  | [], b => rfl
  | s :: t, b => by rw [List.cons_append, flatS, flatS, flatS_append t b]; rfl
theorem flatS_length : ∀ a : List Sp, (flatS a).length = 2 * a.length
  | [] => rfl
  | s :: t => by rw [flatS, List.length_cons, List.length_cons, flatS_length t, List.length_cons]; omega
theorem edges_fold (l : List Sp) : ∀ (out : List Int), out.Pairwise (· < ·) → (l.foldl (edge1 2) out).Pairwise (· < ·) ∧ ∀ x, x ∈ l.foldl (edge1 2) out ↔ x ∈ out ∨ x ∈ flatS l := by
  induction l with
  | nil => intro out h; exact ⟨h, fun x => by simp [flatS]⟩
  | cons s t ih =>
    intro out h
    rw [List.foldl_cons]
    obtain ⟨h1, h2⟩ := ih (edge1 2 out s) (insI_strict _ _ (insI_strict _ _ h))
    refine ⟨h1, fun x => ?_⟩
    rw [h2 x]
    show (x ∈ insI (s.hi + 1) (insI s.lo out) ∨ _) ↔ _
    rw [insI_mem, insI_mem, flatS, List.mem_cons, List.mem_cons]
    constructor
    · rintro ((h | h | h) | h)
      · exact .inr (.inr (.inl h))
      · exact .inr (.inl h)
      · exact .inl h
      · exact .inr (.inr (.inr h))
    · rintro (h | h | h | h)
      · exact .inl (.inr (.inr h))
      · exact .inl (.inr (.inl h))
      · exact .inl (.inl h)
      · exact .inr h
theorem edges_strict (l : List Sp) : (edgesL l).Pairwise (· < ·) := (edges_fold l [] List.Pairwise.nil).1
theorem edges_mem (l : List Sp) (x : Int) : x ∈ edgesL l ↔ x ∈ flatS l := by
  have := (edges_fold l [] List.Pairwise.nil).2 x
  unfold edgesL
  simpa using this

theorem compact_asc (d : Array Int) (hd : ∀ i j, i ≤ j → j < d.size → d[i]! ≤ d[j]!) : ∀ m, m ≤ d.size → (Lib.compactUpTo d m).Pairwise (· < ·) ∧ ∀ x, x ∈ Lib.compactUpTo d m ↔ ∃ j, j < m ∧ d[j]! = x := by
  intro m
  induction m with
  | zero => intro _; exact ⟨by simp [Lib.compactUpTo], fun x => by simp [Lib.compactUpTo]⟩
  | succ m ih =>
    intro hm
    obtain ⟨h1, h2⟩ := ih (by omega)
    rw [Lib.compactUpTo_succ]
    by_cases hk : Lib.keeps d m = true
    · rw [if_pos hk]
      refine ⟨?_, fun x => ?_⟩
      · rw [List.pairwise_append]
        refine ⟨h1, by simp, fun x hx y hy => ?_⟩
        rw [List.mem_singleton] at hy
        subst hy
        obtain ⟨j, hj, rfl⟩ := (h2 x).1 hx
        have hne : d[m]! ≠ d[m - 1]! := by
          unfold Lib.keeps at hk
          have := of_decide_eq_true hk
          rcases this with h | h
          · omega
          · exact h
        have a1 := hd j (m - 1) (by omega) (by omega)
        have a2 := hd (m - 1) m (by omega) (by omega)
        omega
      · rw [List.mem_append, h2, List.mem_singleton]
        constructor
        · rintro (⟨j, hj, e⟩ | e)
          · exact ⟨j, by omega, e⟩
          · exact ⟨m, by omega, e.symm⟩
        · rintro ⟨j, hj, e⟩
          by_cases hjm : j = m
          · exact .inr (by rw [← e, hjm])
          · exact .inl ⟨j, by omega, e⟩
    · have hkf : Lib.keeps d m = false := by simpa using hk
      rw [hkf]
      have hm0 : m ≠ 0 := fun h => by subst h; simp [Lib.keeps] at hkf
      have he : d[m]! = d[m - 1]! := by
        unfold Lib.keeps at hkf
        have := of_decide_eq_false hkf
        rcases Int.lt_trichotomy d[m]! d[m - 1]! with h | h | h
        · exact absurd (Or.inr (by omega)) this
        · exact h
        · exact absurd (Or.inr (by omega)) this
      refine ⟨by simpa using h1, fun x => ?_⟩
      simp only [Bool.false_eq_true, if_false, List.append_nil]
      rw [h2]
      constructor
      · rintro ⟨j, hj, e⟩; exact ⟨j, by omega, e⟩
      · rintro ⟨j, hj, e⟩
        by_cases hjm : j = m
        · exact ⟨m - 1, by omega, by rw [← he, ← hjm, e]⟩
        · exact ⟨j, by omega, e⟩
/-- Sorted and without repetitions all ends are the edges. -/
theorem compact_edges (l : List Sp) : Lib.compact ((flatS l).mergeSort fun x y => decide (x ≤ y)) = edgesL l := by
  have hs : ((flatS l).mergeSort fun x y => decide (x ≤ y)).Pairwise fun a b => decide (a ≤ b) = true :=
    List.pairwise_mergeSort (le := fun (x y : Int) => decide (x ≤ y)) (fun a b c h1 h2 => decide_eq_true (by have := of_decide_eq_true h1; have := of_decide_eq_true h2; omega)) (fun a b => by rw [Bool.or_eq_true, decide_eq_true_eq, decide_eq_true_eq]; omega) (flatS l)
  have hp := List.mergeSort_perm (flatS l) fun x y => decide (x ≤ y)
  generalize (flatS l).mergeSort (fun x y => decide (x ≤ y)) = zs at *
  have hd : ∀ i j, i ≤ j → j < zs.toArray.size → zs.toArray[i]! ≤ zs.toArray[j]! := by
    intro i j hij hj
    have hj' : j < zs.length := by simpa using hj
    rw [getElem!_pos zs.toArray i (by simp; omega), getElem!_pos zs.toArray j hj]
    rcases Nat.lt_or_ge i j with h | h
    · have := List.pairwise_iff_getElem.1 hs i j (by omega) hj' h
      simpa using this
    · obtain rfl : i = j := by omega
      exact Int.le_refl _
  obtain ⟨h1, h2⟩ := compact_asc zs.toArray hd zs.length (by simp)
  refine eq_of_strict _ _ h1 (edges_strict l) fun x => ?_
  rw [edges_mem, ← hp.mem_iff]
  show x ∈ Lib.compactUpTo zs.toArray zs.length ↔ _
  rw [h2]
  constructor
  · rintro ⟨j, hj, rfl⟩
    rw [getElem!_pos zs.toArray j (by simpa using hj)]
    simp
  · intro hx
    obtain ⟨j, hj, rfl⟩ := List.getElem_of_mem hx
    exact ⟨j, hj, by rw [getElem!_pos zs.toArray j (by simpa using hj)]; simp⟩

/-- One more span, if its numbers are in what the operation makes. -/
def stepC (op : Int) (a b : List Sp) (out : List Sp) (x y : Int) : List Sp := if isInB op (inB a x) (inB b x) = true then appL out ⟨x, y - 1⟩ else out
def buildC (op : Int) (a b : List Sp) : List Int → List Sp → List Sp
  | [], out => out
  | [_], out => out
  | x :: y :: t, out => buildC op a b (y :: t) (stepC op a b out x y)
/-- What an operation makes of two sets. -/
def combineL (op : Int) (a b : List Sp) : List Sp := buildC op a b (edgesL (a ++ b)) []
theorem flat_in {l : List Sp} (hok : ∀ s ∈ l, okB s = true) : ∀ x ∈ flatS l, -1152921504606846976 ≤ x ∧ x ≤ 1152921504606846977 := by
  induction l with
  | nil => intro x hx; simp [flatS] at hx
  | cons s t ih =>
    intro x hx
    have h := okB_in (hok s (by simp))
    rw [flatS, List.mem_cons, List.mem_cons] at hx
    rcases hx with rfl | rfl | hx
    · omega
    · omega
    · exact ih (fun s hs => hok s (by simp [hs])) x hx
theorem edges_in {l : List Sp} (hok : ∀ s ∈ l, okB s = true) : ∀ x ∈ edgesL l, -1152921504606846976 ≤ x ∧ x ≤ 1152921504606846977 := fun x hx => flat_in hok x ((edges_mem l x).1 hx)
theorem flat_hi {l : List Sp} {s : Sp} (h : s ∈ l) : s.hi + 1 ∈ flatS l := by
  induction l with
  | nil => cases h
  | cons t r ih =>
    rw [flatS]
    rcases List.mem_cons.1 h with rfl | h
    · simp
    · simp [ih h]
/-- The last edge is in none of the spans. -/
theorem last_out {l : List Sp} {k : Nat} {x : Int} (hx : (edgesL l)[k]? = some x) (hl : (edgesL l).length = k + 1) {m : List Sp} (hm : ∀ s ∈ m, s ∈ l) : inB m x = false := by
  unfold inB
  rw [List.any_eq_false]
  intro s hs
  have h1 := (edges_mem l (s.hi + 1)).2 (flat_hi (hm s hs))
  obtain ⟨j, hj, e⟩ := List.getElem_of_mem h1
  obtain ⟨hk, ex⟩ := List.getElem?_eq_some_iff.1 hx
  have hle : s.hi + 1 ≤ x := by
    rcases Nat.lt_or_ge j k with h | h
    · have := List.pairwise_iff_getElem.1 (edges_strict l) j k hj hk h
      omega
    · obtain rfl : j = k := by omega
      omega
  simp; omega
theorem isIn_none (op : Int) : isInB op false false = false := by unfold isInB; split <;> (try split) <;> rfl
theorem stepC_hi {op : Int} {a b out : List Sp} {x y lo hi : Int} (h : ∀ p ∈ out, lo ≤ p.hi ∧ p.hi ≤ hi) (hy : lo ≤ y - 1 ∧ y - 1 ≤ hi) : ∀ p ∈ stepC op a b out x y, lo ≤ p.hi ∧ p.hi ≤ hi := by
  intro p hp
  unfold stepC at hp
  split at hp
  · rcases List.eq_nil_or_concat out with rfl | ⟨o, q, rfl⟩
    · rw [appL_nil, List.mem_singleton] at hp
      subst hp; exact hy
    · rw [List.concat_eq_append] at *
      by_cases he : q.hi + 1 = x
      · rw [appL_join (s := ⟨x, y - 1⟩) he, List.mem_append, List.mem_singleton] at hp
        rcases hp with hp | rfl
        · exact h p (by simp [hp])
        · exact hy
      · rw [appL_apart (s := ⟨x, y - 1⟩) he, List.mem_append, List.mem_singleton] at hp
        rcases hp with hp | rfl
        · exact h p hp
        · exact hy
  · exact h p hp
theorem appL_length (l : List Sp) (s : Sp) : (appL l s).length ≤ l.length + 1 := by
  rcases List.eq_nil_or_concat l with rfl | ⟨o, q, rfl⟩
  · simp [appL_nil]
  · rw [List.concat_eq_append]
    by_cases he : q.hi + 1 = s.lo
    · rw [appL_join he]; simp
    · rw [appL_apart he]; simp
theorem stepC_length {op : Int} {a b out : List Sp} {x y : Int} : (stepC op a b out x y).length ≤ out.length + 1 := by
  unfold stepC
  split
  · exact appL_length _ _
  · omega
theorem buildC_step {op : Int} {a b out : List Sp} {L : List Int} {k : Nat} {x y : Int} (hx : L[k]? = some x) (hy : L[k + 1]? = some y) : buildC op a b (L.drop k) out = buildC op a b (L.drop (k + 1)) (stepC op a b out x y) := by
  obtain ⟨h1, e1⟩ := List.getElem?_eq_some_iff.1 hx
  obtain ⟨h2, e2⟩ := List.getElem?_eq_some_iff.1 hy
  rw [List.drop_eq_getElem_cons h1, List.drop_eq_getElem_cons h2, e1, e2, buildC]
theorem buildC_end {op : Int} {a b out : List Sp} {L : List Int} {k : Nat} (h : L.length ≤ k + 1) : buildC op a b (L.drop k) out = out := by
  have hl : (L.drop k).length ≤ 1 := by rw [List.length_drop]; omega
  rcases hd : L.drop k with _ | ⟨x, _ | ⟨y, t⟩⟩
  · rfl
  · rfl
  · rw [hd] at hl; simp at hl
theorem flatS_take {l : List Sp} {k : Nat} {s : Sp} (h : l[k]? = some s) : flatS (l.take (k + 1)) = flatS (l.take k) ++ [s.lo, s.hi + 1] := by
  rw [List.take_add_one, h, flatS_append]; rfl
theorem intCells_append (a b : List Int) : intCells (a ++ b) = intCells a ++ intCells b := by unfold intCells; rw [List.map_append]
theorem intCells_map (l : List Int) : intCells l = l.map (Value.int .i64) := rfl
theorem _root_.Go.World.ownsRow.base {w : World} {base base' : Nat} {e : TypeId} {size n : Nat} {v : Value} {xs : List Value} (h : w.ownsRow base e size v n xs) (hb : base' ≤ base) : w.ownsRow base' e size v n xs := by
  obtain ⟨h1, h2⟩ := h
  refine ⟨h1, ?_⟩
  rcases h2 with h | ⟨g, cap, cur, hv, hg, hr⟩
  · exact .inl h
  · exact .inr ⟨g, cap, cur, hv, Nat.le_trans hb hg, hr⟩
theorem own_len {w : World} {base : Nat} {e : TypeId} {size n : Nat} {v : Value} {xs : List Value} (h : w.ownsRow base e size v n xs) : ∃ p cap, v = .slice p n cap := by
  rcases own_cases h with ⟨rfl, rfl, -⟩ | ⟨g, cap, rfl, -⟩
  · exact ⟨none, 0, rfl⟩
  · exact ⟨_, cap, rfl⟩
theorem combineL_nil {op : Int} {xs ys : List Sp} (h : (xs ++ ys).length = 0) : combineL op xs ys = [] := by
  unfold combineL
  rw [List.eq_nil_of_length_eq_zero h]; rfl
theorem compact_length (zs : List Int) : (Lib.compact zs).length ≤ zs.length := by
  unfold Lib.compact Lib.compactUpTo
  rw [List.length_map]
  exact Nat.le_trans (List.length_filter_le _ _) (by rw [List.length_range]; exact Nat.le_refl _)
theorem sort_length (zs : List Int) : (zs.mergeSort fun x y => decide (x ≤ y)).length = zs.length := List.length_mergeSort _
end Go.Proofs.YtgdedcdjfljcnaaGreatDoor
namespace Go.Proofs.YtgdedcdjfljcnaaGreatDoor
open Go.RowKit

/-- Numbers in memory, below a block. -/
def ArgAt (B : Nat) (w : World) (A : Option Addr) (l : List Int) : Prop := l = [] ∨ ∃ b off, A = some ⟨b, off, none⟩ ∧ b < B ∧ ∀ j x, l[j]? = some x → w.cell? ⟨b, off + j, none⟩ = some (.int .i64 x)
theorem ArgAt.keep {B : Nat} {w w' : World} {A : Option Addr} {l : List Int} (h : ArgAt B w A l) (hf : Below B w w') : ArgAt B w' A l := by
  rcases h with h | ⟨b, off, h1, h2, h3⟩
  · exact .inl h
  · exact .inr ⟨b, off, h1, h2, fun j u hu => (hf.cell (p := ⟨b, off + j, none⟩) h2).trans (h3 j u hu)⟩
theorem ArgAt.mono {B B' : Nat} {w : World} {A : Option Addr} {l : List Int} (h : ArgAt B w A l) (hB : B ≤ B') : ArgAt B' w A l := by
  rcases h with h | ⟨b, off, h1, h2, h3⟩
  · exact .inl h
  · exact .inr ⟨b, off, h1, Nat.lt_of_lt_of_le h2 hB, h3⟩
/-- A node's five cells. -/
structure NodeRep (B : Nat) (w : World) (x : LN) (A : Option Addr) (ca : Nat) : Prop where
  args : ArgAt B w A x.args
  cap : x.args.length ≤ ca
  nil : A = none → ca = 0
  kind : InI x.kind
  lo : InI x.lo
  hi : InI x.hi
  text : x.text.length ≤ maxLen
def LN.cells (x : LN) (A : Option Addr) (ca : Nat) : List Value := [.int .i64 x.kind, .int .i64 x.lo, .int .i64 x.hi, .string ⟨x.text.toArray⟩, .slice A x.args.length ca]
/-- A constraint in memory, below a block. -/
def LimAt (B : Nat) (w : World) (A : Option Addr) (l : List LN) : Prop :=
  l = [] ∨ ∃ b off, ∃ (C : Nat → Option Addr × Nat), A = some ⟨b, off, none⟩ ∧ b < B ∧ (∀ i x, l[i]? = some x → NodeRep B w x (C i).1 (C i).2) ∧ ∀ i x, l[i]? = some x → ∀ j u, (x.cells (C i).1 (C i).2)[j]? = some u → w.cell? ⟨b, off + i * 5 + j, none⟩ = some u
theorem NodeRep.keep {B : Nat} {w w' : World} {x : LN} {A : Option Addr} {ca : Nat} (h : NodeRep B w x A ca) (hf : Below B w w') : NodeRep B w' x A ca := { h with args := h.args.keep hf }
theorem NodeRep.mono {B B' : Nat} {w : World} {x : LN} {A : Option Addr} {ca : Nat} (h : NodeRep B w x A ca) (hB : B ≤ B') : NodeRep B' w x A ca := { h with args := h.args.mono hB }
theorem LimAt.keep {B : Nat} {w w' : World} {A : Option Addr} {l : List LN} (h : LimAt B w A l) (hf : Below B w w') : LimAt B w' A l := by
  rcases h with h | ⟨b, off, C, h1, h2, h3, h4⟩
  · exact .inl h
  · exact .inr ⟨b, off, C, h1, h2, fun i x hx => (h3 i x hx).keep hf, fun i x hx j u hu => (hf.cell (p := ⟨b, off + i * 5 + j, none⟩) h2).trans (h4 i x hx j u hu)⟩
theorem LimAt.mono {B B' : Nat} {w : World} {A : Option Addr} {l : List LN} (h : LimAt B w A l) (hB : B ≤ B') : LimAt B' w A l := by
  rcases h with h | ⟨b, off, C, h1, h2, h3, h4⟩
  · exact .inl h
  · exact .inr ⟨b, off, C, h1, Nat.lt_of_lt_of_le h2 hB, fun i x hx => (h3 i x hx).mono hB, h4⟩
theorem LimAt.item {B b off : Nat} {w : World} {l : List LN} (h : LimAt B w (some ⟨b, off, none⟩) l) {i : Nat} {x : LN} (hx : l[i]? = some x) :
    b < B ∧ ∃ A ca, NodeRep B w x A ca ∧ w.cell? ⟨b, off + i * 5, none⟩ = some (.int .i64 x.kind) ∧ w.cell? ⟨b, off + i * 5 + 1, none⟩ = some (.int .i64 x.lo) ∧ w.cell? ⟨b, off + i * 5 + 2, none⟩ = some (.int .i64 x.hi) ∧
      w.cell? ⟨b, off + i * 5 + 3, none⟩ = some (.string ⟨x.text.toArray⟩) ∧ w.cell? ⟨b, off + i * 5 + 4, none⟩ = some (.slice A x.args.length ca) := by
  rcases h with rfl | ⟨b', off', C, h1, h2, h3, h4⟩
  · simp at hx
  · injection h1 with h1
    injection h1 with e1 e2
    subst e1; subst e2
    exact ⟨h2, (C i).1, (C i).2, h3 i x hx, h4 i x hx 0 _ rfl, h4 i x hx 1 _ rfl, h4 i x hx 2 _ rfl, h4 i x hx 3 _ rfl, h4 i x hx 4 _ rfl⟩
theorem LimAt.addr {B : Nat} {w : World} {A : Option Addr} {l : List LN} (h : LimAt B w A l) {i : Nat} {x : LN} (hx : l[i]? = some x) : ∃ b off, A = some ⟨b, off, none⟩ ∧ b < B := by
  rcases h with rfl | ⟨b, off, C, h1, h2, -⟩
  · simp at hx
  · exact ⟨b, off, h1, h2⟩

/-- What the constraint of a type of a kind is about. -/
def subj (k : Int) : Int := if k = 2 then 1 else if k = 4 ∨ k = 5 then 2 else if k = 6 then 3 else if k = 11 ∨ k = 12 then 4 else 0
theorem subjectOf_any (k : Int) (w : World) : Calls Tryz.prog 44 #[.int .i64 k] w fun e w' => e = .returned (.int .i64 (subj k)) ∧ w = w' := by
  have hv : subj k = if k = 2 then 1 else if k = 4 ∨ k = 5 then 2 else if k = 6 then 3 else if k = 11 ∨ k = 12 then 4 else 0 := rfl
  generalize subj k = r at *
  have Hv := Lib.hid hv
  clear hv
  go_enter Tryz.func44, Tryz.ntmps44
  go_wp2_with fail
  all_goals
    go_ret
    exact ⟨ret_int (by rw [Hv.out]; simp_all), rfl⟩
def operSubj (k a : Int) : Int := if k = 2 then 5 else if k = 3 then 6 else a
theorem operandSubject_any (k a : Int) (w : World) : Calls Tryz.prog 97 #[.int .i64 k, .int .i64 a] w fun e w' => e = .returned (.int .i64 (operSubj k a)) ∧ w = w' := by
  have hv : operSubj k a = if k = 2 then 5 else if k = 3 then 6 else a := rfl
  generalize operSubj k a = r at *
  have Hv := Lib.hid hv
  clear hv
  go_enter Tryz.func97, Tryz.ntmps97
  go_wp2_with fail
  all_goals
    go_ret
    exact ⟨ret_int (by rw [Hv.out]; simp_all), rfl⟩
def isListB (k : Int) : Bool := decide (subj k = 4)
theorem isList_any (k : Int) (w : World) : Calls Tryz.prog 25 #[.int .i64 k] w fun e w' => e = .returned (.bool (isListB k)) ∧ w = w' := by
  have Hs := Lib.hid (subjectOf_any k)
  have hv : isListB k = decide (subj k = 4) := rfl
  generalize isListB k = r at *
  generalize subj k = s at *
  have Hv := Lib.hid hv
  clear hv
  go_enter Tryz.func25, Tryz.ntmps25
  go_wp2_with (go_at_call 44; refine (Hs.out _).mono ?_; rintro e w' ⟨rfl, rfl⟩)
  go_ret
  exact ⟨ret_bool (by rw [Hv.out, Bool.eq_iff_iff]; simp), rfl⟩
def operOf (k : Int) : Int := if k = 5 then 1 else if k = 6 then 2 else 0
theorem operationOf_any (k : Int) (w : World) : Calls Tryz.prog 77 #[.int .i64 k] w fun e w' => e = .returned (.int .i64 (operOf k)) ∧ w = w' := by
  have hv : operOf k = if k = 5 then 1 else if k = 6 then 2 else 0 := rfl
  generalize operOf k = r at *
  have Hv := Lib.hid hv
  clear hv
  go_enter Tryz.func77, Tryz.ntmps77
  go_wp2_with fail
  all_goals
    go_ret
    exact ⟨ret_int (by rw [Hv.out]; simp_all), rfl⟩
/-- Whether a node of a kind may stand where something is spoken about. -/
def standB (k a : Int) : Bool := if k = 0 then decide (a = 1 ∨ a = 5 ∨ a = 6) else if k = 1 then decide (a = 2 ∨ a = 3 ∨ a = 6) else if k = 2 then decide (a = 2 ∨ a = 3 ∨ a = 4) else if k = 3 then decide (a = 3) else true
theorem mayStand_any (k a : Int) (w : World) : Calls Tryz.prog 98 #[.int .i64 k, .int .i64 a] w fun e w' => e = .returned (.bool (standB k a)) ∧ w = w' := by
  have hv : standB k a = if k = 0 then decide (a = 1 ∨ a = 5 ∨ a = 6) else if k = 1 then decide (a = 2 ∨ a = 3 ∨ a = 6) else if k = 2 then decide (a = 2 ∨ a = 3 ∨ a = 4) else if k = 3 then decide (a = 3) else true := rfl
  generalize standB k a = r at *
  have Hv := Lib.hid hv
  clear hv
  go_enter Tryz.func98, Tryz.ntmps98
  go_wp2_with fail
  all_goals
    go_ret
    exact ⟨ret_bool (by rw [Hv.out]; simp_all <;> (rw [Bool.eq_iff_iff]; simp [*])), rfl⟩
theorem spanOf_any (k lo hi : Int) (s : ByteArray) (A : Option Addr) (n c : Nat) (w : World) :
    Calls Tryz.prog 75 #[.agg #[.int .i64 k, .int .i64 lo, .int .i64 hi, .string s, .slice A n c]] w fun e w' => e = .returned (.agg #[.int .i64 lo, .int .i64 hi]) ∧ Fr w.heap.size w w' := by
  have hf := (Fr.self w).alloc (.cells #[.int .i64 k, .int .i64 lo, .int .i64 hi, .string s, .slice A n c] 66)
  go_enter Tryz.func75, Tryz.ntmps75
  go_wp2
  exact bodyPost_ret (v := .agg #[.int .i64 lo, .int .i64 hi]) (by simp [results, Tryz.results75, go_sem]) rfl ⟨rfl, hf.alloc _⟩
/-- A node has what its kind has, and as many operands. -/
def nodeB (x : LN) : Bool :=
  if (x.kind ≠ 0 ∧ (x.lo ≠ 0 ∨ x.hi ≠ 0)) ∨ (x.kind ≠ 1 ∧ x.text ≠ []) then false
  else if x.kind = 0 ∨ x.kind = 1 then decide (x.args.length = 0) else if x.kind = 2 ∨ x.kind = 3 then decide (x.args.length = 1) else if x.kind = 4 ∨ x.kind = 5 ∨ x.kind = 6 then decide (x.args.length = 2)
  else if x.kind = 7 then decide (x.args.length = 1 ∨ x.args.length = 2) else false
set_option maxHeartbeats 1000000 in
theorem isLimitNode_any (x : LN) (A : Option Addr) (ca : Nat) (w : World) (hn : x.args.length ≤ 100000) :
    Calls Tryz.prog 205 #[.agg (x.cells A ca).toArray] w fun e w' => e = .returned (.bool (nodeB x)) ∧ Fr w.heap.size w w' := by
  obtain ⟨k, lo, hi, t, args⟩ := x
  have hv : nodeB ⟨k, lo, hi, t, args⟩ = if (k ≠ 0 ∧ (lo ≠ 0 ∨ hi ≠ 0)) ∨ (k ≠ 1 ∧ t ≠ []) then false
    else if k = 0 ∨ k = 1 then decide (args.length = 0) else if k = 2 ∨ k = 3 then decide (args.length = 1) else if k = 4 ∨ k = 5 ∨ k = 6 then decide (args.length = 2)
    else if k = 7 then decide (args.length = 1 ∨ args.length = 2) else false := rfl
  simp only [LN.cells]
  generalize nodeB ⟨k, lo, hi, t, args⟩ = r at *
  have Hv := Lib.hid hv
  have hse : (t == []) = t.isEmpty := by cases t <;> rfl
  have Hse := Lib.hid hse
  clear hv hse
  go_enter Tryz.func205, Tryz.ntmps205
  go_wp2_with fail
  all_goals
    go_ret
    refine ⟨?_, (Fr.self w).alloc _⟩
    rw [Hv.out]
    clear Hv Hse
    first
      | (simp_all; done)
      | (simp_all; rw [Bool.eq_iff_iff]; simp [*]; done)
      | (simp_all; omega)
      | (simp_all; rw [Bool.eq_iff_iff]; simp [*]; omega)
end Go.Proofs.YtgdedcdjfljcnaaGreatDoor
namespace Go.Proofs.YtgdedcdjfljcnaaGreatDoor
open Go.RowKit

/-- Tags in memory, below a block. -/
def TagAt (B : Nat) (w : World) (A : Option Addr) (l : List TG) : Prop := l = [] ∨ ∃ b off, A = some ⟨b, off, none⟩ ∧ b < B ∧ ∀ i t, l[i]? = some t → w.cell? ⟨b, off + i * 3, none⟩ = some (.int .i64 t.cls) ∧ w.cell? ⟨b, off + i * 3 + 1, none⟩ = some (.int .i64 t.num) ∧ w.cell? ⟨b, off + i * 3 + 2, none⟩ = some (.int .i64 t.way)
theorem TagAt.keep {B : Nat} {w w' : World} {A : Option Addr} {l : List TG} (h : TagAt B w A l) (hf : Below B w w') : TagAt B w' A l := by
  rcases h with h | ⟨b, off, h1, h2, h3⟩
  · exact .inl h
  · exact .inr ⟨b, off, h1, h2, fun i t ht => by
      obtain ⟨c0, c1, c2⟩ := h3 i t ht
      exact ⟨(hf.cell (p := ⟨b, off + i * 3, none⟩) h2).trans c0, (hf.cell (p := ⟨b, off + i * 3 + 1, none⟩) h2).trans c1, (hf.cell (p := ⟨b, off + i * 3 + 2, none⟩) h2).trans c2⟩⟩
theorem TagAt.mono {B B' : Nat} {w : World} {A : Option Addr} {l : List TG} (h : TagAt B w A l) (hB : B ≤ B') : TagAt B' w A l := by
  rcases h with h | ⟨b, off, h1, h2, h3⟩
  · exact .inl h
  · exact .inr ⟨b, off, h1, Nat.lt_of_lt_of_le h2 hB, h3⟩
def tagB (t : TG) : Bool := decide (1 ≤ t.cls ∧ t.cls ≤ 3 ∧ 0 ≤ t.num ∧ t.num ≤ 100000 ∧ 0 ≤ t.way ∧ t.way ≤ 2)
/-- Few tags, each a right one. -/
def TagsOk (l : List TG) : Prop := l.length ≤ 3 ∧ ∀ t ∈ l, tagB t = true
end Go.Proofs.YtgdedcdjfljcnaaGreatDoor
