/- Nodes of constraints: how they lie in memory; small functions over their kinds. -/
import Derived.Test.YtoelifebmhlokaaGreatDoorSCombined
namespace Go.Proofs.YtoelifebmhlokaaGreatDoor
open Go.RowKit

/-- A node of a constraint. -/
structure LN where
  kind : Int
  lo : Int
  hi : Int
  text : List UInt8
  args : List Int
/-- Numbers in memory, below a block. -/
def ArgAt (B : Nat) (w : World) (A : Option Addr) (l : List Int) : Prop := l = [] ∨ ∃ b off, A = some ⟨b, off, none⟩ ∧ b < B ∧ ∀ j x, l[j]? = some x → w.cell? ⟨b, off + j, none⟩ = some (.int .i64 x)
theorem ArgAt.keep {B : Nat} {w w' : World} {A : Option Addr} {l : List Int} (h : ArgAt B w A l) (hf : Below B w w') : ArgAt B w' A l := by
  rcases h with h | ⟨b, off, h1, h2, h3⟩
  · exact .inl h
  · exact .inr ⟨b, off, h1, h2, fun j u hu => (hf.cell (p := ⟨b, off + j, none⟩) h2).trans (h3 j u hu)⟩
theorem ArgAt.mono {B B' : Nat} {w : World} {A : Option Addr} {l : List Int} (h : ArgAt B w A l) (hB : B ≤ B') : ArgAt B' w A l := by
  rcases h with h | ⟨b, off, h1, h2, h3⟩
  · exact .inl h
  · exact .inr ⟨b, off, h1, Nat.lt_of_lt_of_le h2 hB, h3⟩
/-- A node's five cells. -/
structure NodeRep (B : Nat) (w : World) (x : LN) (A : Option Addr) (ca : Nat) : Prop where
  args : ArgAt B w A x.args
  cap : x.args.length ≤ ca
  nil : A = none → ca = 0
  kind : InI x.kind
  lo : InI x.lo
  hi : InI x.hi
  text : x.text.length ≤ maxLen
def LN.cells (x : LN) (A : Option Addr) (ca : Nat) : List Value := [.int .i64 x.kind, .int .i64 x.lo, .int .i64 x.hi, .string ⟨x.text.toArray⟩, .slice A x.args.length ca]
/-- A constraint in memory, below a block. -/
def LimAt (B : Nat) (w : World) (A : Option Addr) (l : List LN) : Prop :=
  l = [] ∨ ∃ b off, ∃ (C : Nat → Option Addr × Nat), A = some ⟨b, off, none⟩ ∧ b < B ∧ (∀ i x, l[i]? = some x → NodeRep B w x (C i).1 (C i).2) ∧ ∀ i x, l[i]? = some x → ∀ j u, (x.cells (C i).1 (C i).2)[j]? = some u → w.cell? ⟨b, off + i * 5 + j, none⟩ = some u
theorem NodeRep.keep {B : Nat} {w w' : World} {x : LN} {A : Option Addr} {ca : Nat} (h : NodeRep B w x A ca) (hf : Below B w w') : NodeRep B w' x A ca := { h with args := h.args.keep hf }
theorem NodeRep.mono {B B' : Nat} {w : World} {x : LN} {A : Option Addr} {ca : Nat} (h : NodeRep B w x A ca) (hB : B ≤ B') : NodeRep B' w x A ca := { h with args := h.args.mono hB }
theorem LimAt.keep {B : Nat} {w w' : World} {A : Option Addr} {l : List LN} (h : LimAt B w A l) (hf : Below B w w') : LimAt B w' A l := by
  rcases h with h | ⟨b, off, C, h1, h2, h3, h4⟩
  · exact .inl h
  · exact .inr ⟨b, off, C, h1, h2, fun i x hx => (h3 i x hx).keep hf, fun i x hx j u hu => (hf.cell (p := ⟨b, off + i * 5 + j, none⟩) h2).trans (h4 i x hx j u hu)⟩
theorem LimAt.mono {B B' : Nat} {w : World} {A : Option Addr} {l : List LN} (h : LimAt B w A l) (hB : B ≤ B') : LimAt B' w A l := by
  rcases h with h | ⟨b, off, C, h1, h2, h3, h4⟩
  · exact .inl h
  · exact .inr ⟨b, off, C, h1, Nat.lt_of_lt_of_le h2 hB, fun i x hx => (h3 i x hx).mono hB, h4⟩
theorem LimAt.item {B b off : Nat} {w : World} {l : List LN} (h : LimAt B w (some ⟨b, off, none⟩) l) {i : Nat} {x : LN} (hx : l[i]? = some x) :
    b < B ∧ ∃ A ca, NodeRep B w x A ca ∧ w.cell? ⟨b, off + i * 5, none⟩ = some (.int .i64 x.kind) ∧ w.cell? ⟨b, off + i * 5 + 1, none⟩ = some (.int .i64 x.lo) ∧ w.cell? ⟨b, off + i * 5 + 2, none⟩ = some (.int .i64 x.hi) ∧
      w.cell? ⟨b, off + i * 5 + 3, none⟩ = some (.string ⟨x.text.toArray⟩) ∧ w.cell? ⟨b, off + i * 5 + 4, none⟩ = some (.slice A x.args.length ca) := by
  rcases h with rfl | ⟨b', off', C, h1, h2, h3, h4⟩
  · simp at hx
  · injection h1 with h1
    injection h1 with e1 e2
    subst e1; subst e2
    exact ⟨h2, (C i).1, (C i).2, h3 i x hx, h4 i x hx 0 _ rfl, h4 i x hx 1 _ rfl, h4 i x hx 2 _ rfl, h4 i x hx 3 _ rfl, h4 i x hx 4 _ rfl⟩
theorem LimAt.addr {B : Nat} {w : World} {A : Option Addr} {l : List LN} (h : LimAt B w A l) {i : Nat} {x : LN} (hx : l[i]? = some x) : ∃ b off, A = some ⟨b, off, none⟩ ∧ b < B := by
  rcases h with rfl | ⟨b, off, C, h1, h2, -⟩
  · simp at hx
  · exact ⟨b, off, h1, h2⟩

/-- What the constraint of a type of a kind is about. -/
def subj (k : Int) : Int := if k = 2 then 1 else if k = 4 ∨ k = 5 then 2 else if k = 6 then 3 else if k = 11 ∨ k = 12 then 4 else 0
theorem subjectOf_any (k : Int) (w : World) : Calls Tryz.prog 53 #[.int .i64 k] w fun e w' => e = .returned (.int .i64 (subj k)) ∧ w = w' := by
  have hv : subj k = if k = 2 then 1 else if k = 4 ∨ k = 5 then 2 else if k = 6 then 3 else if k = 11 ∨ k = 12 then 4 else 0 := rfl
  generalize subj k = r at *
  have Hv := Lib.hid hv
  clear hv
  go_enter Tryz.func53, Tryz.ntmps53
  go_wp2_with fail
  all_goals
    go_ret
    exact ⟨ret_int (by rw [Hv.out]; simp_all), rfl⟩
def operSubj (k a : Int) : Int := if k = 2 then 5 else if k = 3 then 6 else a
theorem operandSubject_any (k a : Int) (w : World) : Calls Tryz.prog 84 #[.int .i64 k, .int .i64 a] w fun e w' => e = .returned (.int .i64 (operSubj k a)) ∧ w = w' := by
  have hv : operSubj k a = if k = 2 then 5 else if k = 3 then 6 else a := rfl
  generalize operSubj k a = r at *
  have Hv := Lib.hid hv
  clear hv
  go_enter Tryz.func84, Tryz.ntmps84
  go_wp2_with fail
  all_goals
    go_ret
    exact ⟨ret_int (by rw [Hv.out]; simp_all), rfl⟩
def isListB (k : Int) : Bool := decide (subj k = 4)
theorem isList_any (k : Int) (w : World) : Calls Tryz.prog 39 #[.int .i64 k] w fun e w' => e = .returned (.bool (isListB k)) ∧ w = w' := by
  have Hs := Lib.hid (subjectOf_any k)
  have hv : isListB k = decide (subj k = 4) := rfl
  generalize isListB k = r at *
  generalize subj k = s at *
  have Hv := Lib.hid hv
  clear hv
  go_enter Tryz.func39, Tryz.ntmps39
  go_wp2_with (go_at_call 53; refine (Hs.out _).mono ?_; rintro e w' ⟨rfl, rfl⟩)
  go_ret
  exact ⟨ret_bool (by rw [Hv.out, Bool.eq_iff_iff]; simp), rfl⟩
def operOf (k : Int) : Int := if k = 5 then 1 else if k = 6 then 2 else 0
theorem operationOf_any (k : Int) (w : World) : Calls Tryz.prog 62 #[.int .i64 k] w fun e w' => e = .returned (.int .i64 (operOf k)) ∧ w = w' := by
  have hv : operOf k = if k = 5 then 1 else if k = 6 then 2 else 0 := rfl
  generalize operOf k = r at *
  have Hv := Lib.hid hv
  clear hv
  go_enter Tryz.func62, Tryz.ntmps62
  go_wp2_with fail
  all_goals
    go_ret
    exact ⟨ret_int (by rw [Hv.out]; simp_all), rfl⟩
/-- Whether a node of a kind may stand where something is spoken about. -/
def standB (k a : Int) : Bool := if k = 0 then decide (a = 1 ∨ a = 5 ∨ a = 6) else if k = 1 then decide (a = 2 ∨ a = 3 ∨ a = 6) else if k = 2 then decide (a = 2 ∨ a = 3 ∨ a = 4) else if k = 3 then decide (a = 3) else true
theorem mayStand_any (k a : Int) (w : World) : Calls Tryz.prog 85 #[.int .i64 k, .int .i64 a] w fun e w' => e = .returned (.bool (standB k a)) ∧ w = w' := by
  have hv : standB k a = if k = 0 then decide (a = 1 ∨ a = 5 ∨ a = 6) else if k = 1 then decide (a = 2 ∨ a = 3 ∨ a = 6) else if k = 2 then decide (a = 2 ∨ a = 3 ∨ a = 4) else if k = 3 then decide (a = 3) else true := rfl
  generalize standB k a = r at *
  have Hv := Lib.hid hv
  clear hv
  go_enter Tryz.func85, Tryz.ntmps85
  go_wp2_with fail
  all_goals
    go_ret
    exact ⟨ret_bool (by rw [Hv.out]; simp_all <;> (rw [Bool.eq_iff_iff]; simp [*])), rfl⟩
theorem spanOf_any (k lo hi : Int) (s : ByteArray) (A : Option Addr) (n c : Nat) (w : World) :
    Calls Tryz.prog 60 #[.agg #[.int .i64 k, .int .i64 lo, .int .i64 hi, .string s, .slice A n c]] w fun e w' => e = .returned (.agg #[.int .i64 lo, .int .i64 hi]) ∧ Fr w.heap.size w w' := by
  have hf := (Fr.self w).alloc (.cells #[.int .i64 k, .int .i64 lo, .int .i64 hi, .string s, .slice A n c] 65)
  go_enter Tryz.func60, Tryz.ntmps60
  go_wp2
  exact bodyPost_ret (v := .agg #[.int .i64 lo, .int .i64 hi]) (by simp [results, Tryz.results60, go_sem]) rfl ⟨rfl, hf.alloc _⟩
/-- A node has what its kind has, and as many operands. -/
def nodeB (x : LN) : Bool :=
  if (x.kind ≠ 0 ∧ (x.lo ≠ 0 ∨ x.hi ≠ 0)) ∨ (x.kind ≠ 1 ∧ x.text ≠ []) then false
  else if x.kind = 0 ∨ x.kind = 1 then decide (x.args.length = 0) else if x.kind = 2 ∨ x.kind = 3 then decide (x.args.length = 1) else if x.kind = 4 ∨ x.kind = 5 ∨ x.kind = 6 then decide (x.args.length = 2)
  else if x.kind = 7 then decide (x.args.length = 1 ∨ x.args.length = 2) else false
set_option maxHeartbeats 1000000 in
theorem isLimitNode_any (x : LN) (A : Option Addr) (ca : Nat) (w : World) (hn : x.args.length ≤ 100000) :
    Calls Tryz.prog 156 #[.agg (x.cells A ca).toArray] w fun e w' => e = .returned (.bool (nodeB x)) ∧ Fr w.heap.size w w' := by
  obtain ⟨k, lo, hi, t, args⟩ := x
  have hv : nodeB ⟨k, lo, hi, t, args⟩ = if (k ≠ 0 ∧ (lo ≠ 0 ∨ hi ≠ 0)) ∨ (k ≠ 1 ∧ t ≠ []) then false
    else if k = 0 ∨ k = 1 then decide (args.length = 0) else if k = 2 ∨ k = 3 then decide (args.length = 1) else if k = 4 ∨ k = 5 ∨ k = 6 then decide (args.length = 2)
    else if k = 7 then decide (args.length = 1 ∨ args.length = 2) else false := rfl
  simp only [LN.cells]
  generalize nodeB ⟨k, lo, hi, t, args⟩ = r at *
  have Hv := Lib.hid hv
  have hse : (t == []) = t.isEmpty := by cases t <;> rfl
  have Hse := Lib.hid hse
  clear hv hse
  go_enter Tryz.func156, Tryz.ntmps156
  go_wp2_with fail
  all_goals
    go_ret
    refine ⟨?_, (Fr.self w).alloc _⟩
    rw [Hv.out]
    clear Hv Hse
    first
      | (simp_all; done)
      | (simp_all; rw [Bool.eq_iff_iff]; simp [*]; done)
      | (simp_all; omega)
      | (simp_all; rw [Bool.eq_iff_iff]; simp [*]; omega)
end Go.Proofs.YtoelifebmhlokaaGreatDoor
