/- Spans: how they lie in memory; contracts on the small functions over them (few, within, has, In, isIn). -/
import Derived.Test.YtoelifebmhlokaaGreatDoorVal
import Derived.Carry
namespace Go.Proofs.YtoelifebmhlokaaGreatDoor
open Go.RowKit

structure Sp where
  lo : Int
  hi : Int
deriving DecidableEq
def spCells : List Sp → List Value
  | [] => []
  | s :: t => .int .i64 s.lo :: .int .i64 s.hi :: spCells t
theorem spCells_length : ∀ l, (spCells l).length = l.length * 2
  | [] => rfl
  | s :: t => by rw [spCells, List.length_cons, List.length_cons, spCells_length t, List.length_cons]; omega
theorem spCells_get : ∀ (l : List Sp) (k : Nat) (s : Sp), l[k]? = some s → (spCells l)[k * 2]? = some (.int .i64 s.lo) ∧ (spCells l)[k * 2 + 1]? = some (.int .i64 s.hi)
  | [], k, s, h => by simp at h
  | g :: t, 0, s, h => by
    simp at h
    subst h
    exact ⟨rfl, rfl⟩
  | g :: t, k + 1, s, h => by
    have ih := spCells_get t k s (by simpa using h)
    have e : ∀ j, (spCells (g :: t))[(k + 1) * 2 + j]? = (spCells t)[k * 2 + j]? := fun j => by
      rw [spCells, (by omega : (k + 1) * 2 + j = (k * 2 + j) + 1 + 1), List.getElem?_cons_succ, List.getElem?_cons_succ]
    have e0 := e 0
    rw [Nat.add_zero, Nat.add_zero] at e0
    rw [e0, e 1]
    exact ih
theorem spCells_append : ∀ a b : List Sp, spCells (a ++ b) = spCells a ++ spCells b
  | [], b => rfl
  | s :: t, b => by rw [List.cons_append, spCells, spCells, spCells_append t b, List.cons_append, List.cons_append]
theorem spCells_one : ∀ (l : List Sp), ∀ u ∈ spCells l, u.oneCell' = true
  | [], u, h => by simp [spCells] at h
  | s :: t, u, h => by
    rw [spCells, List.mem_cons, List.mem_cons] at h
    rcases h with rfl | rfl | h
    · rfl
    · rfl
    · exact spCells_one t u h
theorem spCells_all : ∀ (l : List Sp) (u : Value), u ∈ spCells l → ∃ n, u = .int .i64 n
  | [], u, h => by simp [spCells] at h
  | s :: t, u, h => by
    rw [spCells, List.mem_cons, List.mem_cons] at h
    rcases h with rfl | rfl | h
    · exact ⟨_, rfl⟩
    · exact ⟨_, rfl⟩
    · exact spCells_all t u h
/-- A slice of spans, below a block. -/
def SpAt (B : Nat) (w : World) (A : Option Addr) (l : List Sp) : Prop :=
  l = [] ∨ ∃ b off, A = some ⟨b, off, none⟩ ∧ b < B ∧ ∀ j u, (spCells l)[j]? = some u → w.cell? ⟨b, off + j, none⟩ = some u
theorem SpAt.keep {B : Nat} {w w' : World} {A : Option Addr} {l : List Sp} (h : SpAt B w A l) (hf : Below B w w') : SpAt B w' A l := by
  rcases h with h | ⟨b, off, h1, h2, h3⟩
  · exact .inl h
  · exact .inr ⟨b, off, h1, h2, fun j u hu => (hf.cell (p := ⟨b, off + j, none⟩) h2).trans (h3 j u hu)⟩
theorem SpAt.mono {B B' : Nat} {w : World} {A : Option Addr} {l : List Sp} (h : SpAt B w A l) (hB : B ≤ B') : SpAt B' w A l := by
  rcases h with h | ⟨b, off, h1, h2, h3⟩
  · exact .inl h
  · exact .inr ⟨b, off, h1, Nat.lt_of_lt_of_le h2 hB, h3⟩
theorem SpAt.item {B : Nat} {w : World} {A : Option Addr} {l : List Sp} (h : SpAt B w A l) {k : Nat} {s : Sp} (hk : l[k]? = some s) :
    ∃ b off, A = some ⟨b, off, none⟩ ∧ b < B ∧ w.cell? ⟨b, off + k * 2, none⟩ = some (.int .i64 s.lo) ∧ w.cell? ⟨b, off + k * 2 + 1, none⟩ = some (.int .i64 s.hi) := by
  rcases h with rfl | ⟨b, off, h1, h2, h3⟩
  · simp at hk
  · obtain ⟨c0, c1⟩ := spCells_get l k s hk
    exact ⟨b, off, h1, h2, h3 _ _ c0, h3 _ _ c1⟩

theorem SpAt.cells {B b off : Nat} {w : World} {l : List Sp} (h : SpAt B w (some ⟨b, off, none⟩) l) {k : Nat} {s : Sp} (hk : l[k]? = some s) :
    w.cell? ⟨b, off + k * 2, none⟩ = some (.int .i64 s.lo) ∧ w.cell? ⟨b, off + k * 2 + 1, none⟩ = some (.int .i64 s.hi) := by
  obtain ⟨b', off', hA, -, c0, c1⟩ := h.item hk
  injection hA with hA
  injection hA with h1 h2
  subst h1; subst h2
  exact ⟨c0, c1⟩

/-- A number is in one of some spans. -/
def inB (l : List Sp) (n : Int) : Bool := l.any fun s => decide (s.lo ≤ n ∧ n ≤ s.hi)
theorem in_no (l : List Sp) (n : Int) (h : ∀ i s, i < l.length → l[i]? = some s → ¬ (s.lo ≤ n ∧ n ≤ s.hi)) : inB l n = false := by
  unfold inB
  rw [List.any_eq_false]
  intro s hs
  obtain ⟨i, hi, rfl⟩ := List.getElem_of_mem hs
  simpa using h i _ hi (List.getElem?_eq_getElem hi)
theorem in_yes (l : List Sp) (n : Int) (m : Nat) (s : Sp) (hs : l[m]? = some s) (h : s.lo ≤ n ∧ n ≤ s.hi) : inB l n = true := by
  unfold inB
  rw [List.any_eq_true]
  exact ⟨s, List.mem_of_getElem? hs, decide_eq_true h⟩
theorem in_step (l : List Sp) (n : Int) (m : Nat) (s : Sp) (hs : l[m]? = some s) (hm : ¬ (s.lo ≤ n ∧ n ≤ s.hi)) (h : ∀ i s, i < m → l[i]? = some s → ¬ (s.lo ≤ n ∧ n ≤ s.hi)) : ∀ i s, i < m + 1 → l[i]? = some s → ¬ (s.lo ≤ n ∧ n ≤ s.hi) := by
  intro i y hi hy
  rcases Nat.lt_or_ge i m with h1 | h1
  · exact h i y h1 hy
  · obtain rfl : i = m := by omega
    rw [hs] at hy; injection hy with hy; subst hy; exact hm

theorem within_any (n a b : Int) (w : World) :
    Calls Tryz.prog 10 #[.int .i64 n, .int .i64 a, .int .i64 b] w fun e w' => e = .returned (.bool (decide (a ≤ n ∧ n ≤ b))) ∧ w = w' := by
  go_enter Tryz.func10, Tryz.ntmps10
  go_wp2
  all_goals (go_ret; exact ⟨ret_bool (by rw [Bool.eq_iff_iff]; simp <;> omega), rfl⟩)
theorem few_any (A : Option Addr) (n ca : Nat) (w : World) (hn : n ≤ maxLen) :
    Calls Tryz.prog 5 #[.slice A n ca] w fun e w' => e = .returned (.bool (decide (n ≤ 60))) ∧ w = w' := by
  have hn' : n ≤ 9223372036854775807 := hn
  clear hn
  go_enter Tryz.func5, Tryz.ntmps5
  go_wp2
  all_goals (go_ret; exact ⟨ret_bool (by rw [Bool.eq_iff_iff]; simp <;> omega), rfl⟩)
theorem wholeNumbers_any (w : World) :
    Calls Tryz.prog 19 #[] w fun e w' => e = .returned (.agg #[.int .i64 (-1152921504606846976), .int .i64 1152921504606846976]) ∧ Fr w.heap.size w w' := by
  have hf := Fr.self w
  go_enter Tryz.func19, Tryz.ntmps19
  go_wp2
  exact bodyPost_ret (v := .agg #[.int .i64 (-1152921504606846976), .int .i64 1152921504606846976]) (by simp [results, Tryz.results19, go_sem]) rfl ⟨rfl, hf.alloc _⟩
/-- A span has numbers, all of which are in another one. -/
def withinB (s t : Sp) : Bool := decide (s.lo ≤ s.hi ∧ t.lo ≤ s.lo ∧ s.hi ≤ t.hi)
theorem isWithin_any (s t : Sp) (w : World) :
    Calls Tryz.prog 18 #[.agg #[.int .i64 s.lo, .int .i64 s.hi], .agg #[.int .i64 t.lo, .int .i64 t.hi]] w fun e w' => e = .returned (.bool (withinB s t)) ∧ Fr w.heap.size w w' := by
  obtain ⟨a, b⟩ := s
  obtain ⟨c, d⟩ := t
  simp only
  have hf := ((Fr.self w).alloc (.cells #[.int .i64 a, .int .i64 b] 53)).alloc (.cells #[.int .i64 c, .int .i64 d] 53)
  have hv : withinB ⟨a, b⟩ ⟨c, d⟩ = decide (a ≤ b ∧ c ≤ a ∧ b ≤ d) := rfl
  generalize withinB ⟨a, b⟩ ⟨c, d⟩ = r at *
  have Hv := Lib.hid hv
  clear hv
  go_enter Tryz.func18, Tryz.ntmps18
  go_wp2_with fail
  all_goals (go_ret; exact ⟨ret_bool (by rw [Hv.out, Bool.eq_iff_iff]; simp <;> omega), hf⟩)
/-- A number is in what an operation makes of two sets. -/
def isInB (op : Int) (x y : Bool) : Bool := if op = 0 then x || y else if op = 1 then x && y else x && !y
theorem isIn_any (op : Int) (x y : Bool) (w : World) :
    Calls Tryz.prog 33 #[.int .i64 op, .bool x, .bool y] w fun e w' => e = .returned (.bool (isInB op x y)) ∧ w = w' := by
  have hv : isInB op x y = if op = 0 then x || y else if op = 1 then x && y else x && !y := rfl
  generalize isInB op x y = r at *
  have Hv := Lib.hid hv
  clear hv
  go_enter Tryz.func33, Tryz.ntmps33
  go_wp2_with fail
  all_goals
    go_ret
    exact ⟨ret_bool (by rw [Hv.out]; cases x <;> cases y <;> simp_all), rfl⟩
set_option maxRecDepth 20000 in
theorem has_any {B : Nat} (l : List Sp) (n : Int) (A : Option Addr) (ca : Nat) (w : World) (h : SpAt B w A l) (hB : B ≤ w.heap.size) (hm : l.length ≤ 100000) :
    Calls Tryz.prog 34 #[.slice A l.length ca, .int .i64 n] w fun e w' => e = .returned (.bool (inB l n)) ∧ Fr w.heap.size w w' := by
  have H := Lib.hid h
  have hf := Fr.self w
  clear h
  go_enter Tryz.func34, Tryz.ntmps34
  go_wp2_with fail
  go_loopw [9] (fun i wr => ∃ m : Nat, m ≤ l.length ∧ i = .int .i64 m ∧ Hid (∀ i s, i < m → l[i]? = some s → ¬ (s.lo ≤ n ∧ n ≤ s.hi)) ∧ Fr w.heap.size w wr) (fun i _ => l.length - (intOf i).toNat)
  case atStart => exact ⟨0, by omega, by go_num, fun i y h => absurd h (Nat.not_lt_zero _), hf⟩
  case round =>
    obtain ⟨m, hml, rfl, HR, hfr⟩ := hrel
    by_cases hlt : m < l.length
    · obtain ⟨s, hs⟩ : ∃ s, l[m]? = some s := ⟨_, List.getElem?_eq_getElem hlt⟩
      obtain ⟨b, off, rfl, -, c0, c1⟩ := (H.out.keep (w' := wr) (hfr.2.mono hB)).item hs
      have hmn : (0 : Int) ≤ m := by omega
      have hmm : (m : Int) < l.length := by omega
      by_cases hin : s.lo ≤ n ∧ n ≤ s.hi
      · have Hv := Lib.hid (in_yes l n m s hs hin)
        obtain ⟨h1, h2⟩ := hin
        clear hs
        go_wp2_with fail
        go_ret
        exact ⟨ret_bool Hv.out.symm, hfr.alloc _⟩
      · have Hst := Lib.hid (in_step l n m s hs hin HR.out)
        clear hs
        go_wp2_with fail
        all_goals first
          | (exfalso; omega)
          | (go_roundw
             case rel => exact ⟨m + 1, by omega, by go_num, Hst, hfr.alloc _⟩
             case measure => simp [intOf] <;> omega)
    · have Hv := Lib.hid (in_no l n (fun i s hi hs => HR.out i s (by omega) hs))
      go_wp2_with fail
      go_ret
      exact ⟨ret_bool Hv.out.symm, hfr⟩
end Go.Proofs.YtoelifebmhlokaaGreatDoor
