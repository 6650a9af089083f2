/- An argument that is a slice of tokens, opened; what it gives for the contracts. -/
import Derived.Test.YtknbmnckegonlaaGreatDoorPost2
import Derived.Test.YtknbmnckegonlaaGreatDoorOwn
import Derived.Test.YtknbmnckegonlaaGreatDoorFew
import Derived.Deep.Slices
import Derived.Deep.Strs
namespace Go.Proofs.YtknbmnckegonlaaGreatDoor
open Go.ChangeShapes Go.WideShapes Go.ChangeAt Go.RowKit

theorem token_cells : Tryz.prog.cellsOf 43 = 3 := by kernel_rfl
theorem list_of {Q : Nat → Tok → Prop} : ∀ n, (∀ i, i < n → ∃ t, Q i t) → ∃ ts : List Tok, ts.length = n ∧ ∀ i t, ts[i]? = some t → Q i t
  | 0, _ => ⟨[], rfl, fun i t h => by simp at h⟩
  | n + 1, h => by
    obtain ⟨ts, h1, h2⟩ := list_of n (fun i hi => h i (by omega))
    obtain ⟨t, ht⟩ := h n (by omega)
    refine ⟨ts ++ [t], by simp [h1], fun i u hu => ?_⟩
    rw [List.getElem?_append] at hu
    split at hu
    · exact h2 i u hu
    · rename_i hi
      have : i = n := by
        rcases Nat.lt_or_ge (i - ts.length) 1 with h3 | h3
        · omega
        · rw [List.getElem?_eq_none (by simpa using h3)] at hu; cases hu
      subst this
      rw [h1, Nat.sub_self] at hu
      simp at hu
      subst hu
      exact ht
theorem tokCells_at : ∀ (ts : List Tok) (j : Nat) (u : Value), (tokCells ts)[j]? = some u → ∃ (i : Nat) (t : Tok), ts[i]? = some t ∧ (j = i * 3 ∧ u = .int .i64 t.kind ∨ j = i * 3 + 1 ∧ u = .string ⟨t.text.toArray⟩ ∨ j = i * 3 + 2 ∧ u = .int .i64 t.pos)
  | [], j, u, h => by simp [tokCells] at h
  | t :: r, j, u, h => by
    have e : tokCells (t :: r) = [Value.int .i64 t.kind, .string ⟨t.text.toArray⟩, .int .i64 t.pos] ++ tokCells r := rfl
    rw [e] at h
    match j, h with
    | 0, h => simp at h; exact ⟨0, t, rfl, .inl ⟨rfl, h.symm⟩⟩
    | 1, h => simp at h; exact ⟨0, t, rfl, .inr (.inl ⟨rfl, h.symm⟩)⟩
    | 2, h => simp at h; exact ⟨0, t, rfl, .inr (.inr ⟨rfl, h.symm⟩)⟩
    | j + 3, h =>
      rw [List.getElem?_append_right (by simp)] at h
      obtain ⟨i, t', h1, h2⟩ := tokCells_at r j u (by simpa using h)
      refine ⟨i + 1, t', by simpa using h1, ?_⟩
      rcases h2 with ⟨h2, h3⟩ | ⟨h2, h3⟩ | ⟨h2, h3⟩
      · exact .inl ⟨by omega, h3⟩
      · exact .inr (.inl ⟨by omega, h3⟩)
      · exact .inr (.inr ⟨by omega, h3⟩)
/-- Tokens as an argument holds them. -/
def TokIn (w : World) (v : Value) (ts : List Tok) : Prop :=
  ∃ A cap, v = .slice A ts.length cap ∧ (A = none → ts = [] ∧ cap = 0) ∧ (∀ a, A = some a → ∀ (j : Nat) (u : Value), (tokCells ts)[j]? = some u → w.cell? (a.add j) = some u) ∧ ts.length ≤ 9223372036854775807 ∧ ∀ t ∈ ts, t.text.length ≤ 9223372036854775807
theorem TokIn.arg {w : World} {v : Value} {ts : List Tok} (h : TokIn w v ts) : TokArg w v ts := by
  obtain ⟨A, cap, rfl, h1, h2, -, -⟩ := h
  cases A with
  | none => obtain ⟨rfl, rfl⟩ := h1 rfl; exact .inl ⟨rfl, rfl⟩
  | some a => exact .inr ⟨a, cap, rfl, h2 a rfl⟩
theorem TokIn.row {w : World} {v : Value} {ts : List Tok} (h : TokIn w v ts) : TokRow w w.heap.size v ts := by
  obtain ⟨A, cap, rfl, h1, h2, -, -⟩ := h
  refine ⟨A, cap, rfl, ?_⟩
  cases A with
  | none => exact .inl (h1 rfl).1
  | some a =>
    cases ts with
    | nil => exact .inl rfl
    | cons t r =>
      have h0 := h2 a rfl 0 (.int .i64 t.kind) rfl
      have ha : a.add 0 = a := by unfold Addr.add; rw [if_pos rfl]
      rw [ha] at h0
      have hs := World.cell?_spot h0
      have hb := block_lt_of_cell h0
      obtain ⟨b, off, sp⟩ := a
      simp only at hs
      subst hs
      refine .inr ⟨b, off, rfl, hb, fun j u hu => ?_⟩
      have := h2 _ rfl j u hu
      have e : (({ block := b, off := off, spot := none } : Addr).add j) = ⟨b, off + j, none⟩ := by
        unfold Addr.add
        by_cases hj : j = 0 <;> simp [hj]
      rwa [e] at this
set_option maxRecDepth 100000 in
/-- The opening. -/
theorem open_tokens {H : Type} {enc : TypeId × Value → H} {W : World} {base : Nat} {v : Value} {d : DataW H} {p : List MemPlace} (hv : Value.okWide Tryz.prog W .any base 33 v)
    (h : DataW.Trod enc Tryz.prog W 0 (fun _ => true) true 33 v d p) : ∃ ts, TokIn W v ts := by
  obtain ⟨fuel, hf⟩ := h
  obtain ⟨A, len, cap, rfl⟩ := okWide_slice Tryz.underlying33 hv
  rcases Go.Deep.open_slice Tryz.underlying33 hf with ⟨hcs, -⟩ | ⟨a, len', cap', m, n, D, Pl, hcs, -, hl, hm, hmm, -, hi⟩
  · have e : Value.slice A len cap = .slice none 0 0 := by simpa [Value.cells] using hcs
    injection e with e1 e2 e3
    subst e1; subst e2; subst e3
    refine ⟨[], none, 0, rfl, fun _ => ⟨rfl, rfl⟩, fun a h => ?_, Nat.zero_le _, fun t h => ?_⟩
    · exact absurd h (by simp)
    · exact absurd h (by simp)
  · have e : Value.slice A len cap = .slice (some a) len' cap' := by simpa [Value.cells] using hcs
    injection e with e1 e2 e3
    subst e1; subst e2; subst e3
    simp only [if_true] at hmm
    subst hmm
    rw [token_cells] at hi
    have key : ∀ i, i < len → ∃ t : Tok, W.cell? (a.add (i * 3)) = some (.int .i64 t.kind) ∧ W.cell? (a.add (i * 3 + 1)) = some (.string ⟨t.text.toArray⟩) ∧ W.cell? (a.add (i * 3 + 2)) = some (.int .i64 t.pos) ∧ t.text.length ≤ 9223372036854775807 := by
      intro i hil
      obtain ⟨cs', hc, ht⟩ := hi i (by omega)
      obtain ⟨-, hcl, hat⟩ := World.cells?_some hc
      obtain ⟨y0, y1, y2, k, -, -, t0, t1, t2⟩ := Go.Deep.trod_struct3 Tryz.underlying43 ht
      obtain ⟨c0, c1, c2, rfl⟩ : ∃ c0 c1 c2, cs' = [c0, c1, c2] := by
        match cs', hcl with
        | [c0, c1, c2], _ => exact ⟨c0, c1, c2, rfl⟩
      have q0 : Tryz.prog.cellsOf 3 = 1 := by kernel_rfl
      have q1 : Tryz.prog.cellsOf 9 = 1 := by kernel_rfl
      simp only [q0, q1] at t0 t1 t2
      obtain ⟨x, e0, -, -⟩ := DataW.trod_int Tryz.underlying3 t0
      obtain ⟨b, e1, -, wb⟩ := DataW.trod_string Tryz.underlying9 t1
      obtain ⟨z, e2, -, -⟩ := DataW.trod_int Tryz.underlying3 t2
      simp at e0 e1 e2
      subst e0; subst e1; subst e2
      have h0 := hat 0 (by omega)
      have h1 := hat 1 (by omega)
      have h2 := hat 2 (by omega)
      rw [Go.Deep.add_add] at h0 h1 h2
      refine ⟨⟨x, b.data.toList, z⟩, h0, ?_, h2, ?_⟩
      · have : (ByteArray.mk b.data.toList.toArray) = b := by cases b; simp
        simp only [this]; exact h1
      · rw [ba_size] at wb
        unfold maxLen at wb; simp only; omega
    obtain ⟨ts, hlen, hts⟩ := list_of len key
    refine ⟨ts, some a, m, by rw [hlen], (fun h => absurd h (by simp)), fun a' ha j u hu => ?_, ?_, fun t ht => ?_⟩
    · injection ha with ha
      subst ha
      obtain ⟨i, t, h1, h2⟩ := tokCells_at ts j u hu
      obtain ⟨g0, g1, g2, -⟩ := hts i t h1
      rcases h2 with ⟨rfl, rfl⟩ | ⟨rfl, rfl⟩ | ⟨rfl, rfl⟩
      · exact g0
      · exact g1
      · exact g2
    · unfold maxLen at hm; omega
    · obtain ⟨i, hi⟩ := List.mem_iff_getElem?.1 ht
      exact (hts i t hi).2.2.2
end Go.Proofs.YtknbmnckegonlaaGreatDoor
