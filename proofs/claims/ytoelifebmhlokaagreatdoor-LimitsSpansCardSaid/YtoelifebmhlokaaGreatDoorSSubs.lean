/- What each node of a constraint is about: subjects. -/
import Derived.Test.YtoelifebmhlokaaGreatDoorSSubj
namespace Go.Proofs.YtoelifebmhlokaaGreatDoor
open Go.RowKit Go.Shelf
attribute [local go_sem] Oper.semAt_some

/-- What one node says of its operands. -/
def subjArg (x : NX) (s : List Int) (a : Int) : List Int := s.set a.toNat (operSubj x.nd.kind (s.getD x.i 0))
def subjTop (kd : Int) (n : Nat) (x : NX) (s : List Int) : List Int := if x.i + 1 = n then s.set x.i (subj kd) else s
def subjNode (kd : Int) (n : Nat) (s : List Int) (x : NX) : List Int := x.nd.args.foldl (subjArg x) (subjTop kd n x s)
def subjAll (kd : Int) (n : Nat) (xs : List NX) : List Int := xs.foldl (subjNode kd n) (List.replicate n 0)
theorem subjArg_length (x : NX) (s : List Int) (a : Int) : (subjArg x s a).length = s.length := List.length_set
theorem subjTop_length (kd : Int) (n : Nat) (x : NX) (s : List Int) : (subjTop kd n x s).length = s.length := by unfold subjTop; split <;> simp
theorem foldl_length {α : Type} {f : List Int → α → List Int} (hf : ∀ s a, (f s a).length = s.length) : ∀ (l : List α) (s : List Int), (l.foldl f s).length = s.length
  | [], _ => rfl
  | a :: l, s => by rw [List.foldl_cons, foldl_length hf l, hf]
theorem subjNode_length (kd : Int) (n : Nat) (s : List Int) (x : NX) : (subjNode kd n s x).length = s.length := by unfold subjNode; rw [foldl_length (subjArg_length x), subjTop_length]
theorem subjAll_length (kd : Int) (n : Nat) (xs : List NX) : (subjAll kd n xs).length = n := by unfold subjAll; rw [foldl_length (subjNode_length kd n), List.length_replicate]
theorem subjAll_snoc (kd : Int) (n : Nat) (xs : List NX) (x : NX) : subjAll kd n (xs ++ [x]) = subjNode kd n (subjAll kd n xs) x := by unfold subjAll; rw [List.foldl_append]; rfl
/-- A row of numbers that a block holds, all of it, and that may be written. -/
def RowB (W : World) (g : Nat) (s : List Int) : Prop := (∀ j x, s[j]? = some x → W.cell? ⟨g, j, none⟩ = some (.int .i64 x)) ∧ ∀ j x, s[j]? = some x → W.frozen? ⟨g, j, none⟩ = false
theorem rowB_own {β : Type} (g : Nat) (f : β → List Int) : Own (fun s W => RowB W g (f s)) := fun s A B row hs hg hr =>
  ⟨fun j x hx => cell_kept (hs.1 j x hx) hg hr, fun j x hx => (frozen_kept (hs.1 j x hx) hg hr).trans (hs.2 j x hx)⟩
theorem RowB.set {W : World} {g : Nat} {s : List Int} (h : RowB W g s) (i : Nat) (v : Int) : RowB (W.setCell ⟨g, i, none⟩ (.int .i64 v)) g (s.set i v) := by
  refine ⟨fun j x hx => ?_, fun j x hx => ?_⟩
  · rw [List.getElem?_set] at hx
    by_cases e : i = j
    · subst e
      rw [if_pos rfl] at hx
      split at hx
      · rename_i hi
        cases hx
        exact World.cell?_setCell_same _ _ _ (h.1 i _ (List.getElem?_eq_getElem hi))
      · cases hx
    · rw [if_neg e] at hx
      rw [World.cell?_setCell_other _ _ _ _ (by intro e1; cases e1; exact e rfl)]
      exact h.1 j x hx
  · rw [World.frozen?_setCell]
    rw [List.getElem?_set] at hx
    by_cases e : i = j
    · subst e
      rw [if_pos rfl] at hx
      split at hx
      · rename_i hi
        exact h.2 i _ (List.getElem?_eq_getElem hi)
      · cases hx
    · rw [if_neg e] at hx
      exact h.2 j x hx
theorem RowB.keep {W W' : World} {g : Nat} {s : List Int} (h : RowB W g s) (hc : ∀ j, W'.cell? ⟨g, j, none⟩ = W.cell? ⟨g, j, none⟩) (hz : ∀ j, W'.frozen? ⟨g, j, none⟩ = W.frozen? ⟨g, j, none⟩) : RowB W' g s := ⟨fun j x hx => (hc j).trans (h.1 j x hx), fun j x hx => (hz j).trans (h.2 j x hx)⟩
/-- make([]int, n). -/
theorem make_ints (n : Nat) (hn : n ≤ 100000) (w : World) :
    (Instr.makeSlice 59 (.int .i64 (n : Int)) (.int .i64 (n : Int))).run Tryz.prog w = .ok (.slice (some ⟨w.heap.size, 0, none⟩) n n) (w.alloc (.cells (madeCells #[.int .i64 0] n) 3)) := by
  obtain ⟨j0, hj0, hy0, hy1, hy2⟩ := info_parts int_info
  have hr := run_make (P := Tryz.prog) w 59 3 j0 (.int .i64 0) Tryz.underlying59 hj0 hy0 .i64 .i64 n n (by omega) (by omega) (by rw [hy2]; omega) (by omega)
  simp only [Int.toNat_natCast, hy1, Nat.mul_one] at hr
  exact hr
theorem rowB_made (n : Nat) (w : World) : RowB (w.alloc (.cells (madeCells #[.int .i64 0] n) 3)) w.heap.size (List.replicate n 0) := by
  refine ⟨fun j x hx => ?_, fun j x hx => frozen_new _ _ _ j⟩
  rw [cell_new, ← Array.getElem?_toList, toList_madeCells_one]
  obtain ⟨h1, h2⟩ := List.getElem?_eq_some_iff.1 hx
  rw [List.length_replicate] at h1
  rw [List.getElem_replicate] at h2
  subst h2
  rw [List.getElem?_replicate, if_pos h1]
end Go.Proofs.YtoelifebmhlokaaGreatDoor
