/- A world for the witness of the row of LimitsSpans; its arguments opened; the last step of the law's row. -/
import Derived.Test.YtoelifebmhlokaaGreatDoorSFrame
namespace Go.Proofs.YtoelifebmhlokaaGreatDoor
open Go.ChangeShapes Go.WideShapes Go.ChangeAt Go.RowKit

/-- The literals of a datum, as cells. -/
def valsOf : DataW Unit → List Value
  | .lit (.int k n) => [.int k n]
  | .lit (.bool b) => [.bool b]
  | .agg l => valsAll l
  | _ => []
  where valsAll : List (DataW Unit) → List Value
    | [] => []
    | d :: r => valsOf d ++ valsAll r
noncomputable def laidWorld (os : Os) : World :=
  let w0 := World.holding Tryz.prog os ⟨#[], #[], []⟩
  let put (h : Array Obj) (g : Nat) (cs : Array Value) : Array Obj := h.modify g fun
    | .cells _ t frozen => .cells cs t frozen
    | o => o
  let h1 := put w0.heap 5 (valsOf Rows.laid_unicode_utf8_acceptRanges).toArray
  let h2 := put h1 4 (valsOf Rows.laid_unicode_utf8_first).toArray
  let h3 := put h2 2 (valsOf Rows.laid_examiner_notation_typeParts).toArray
  let h4 := put h3 1 (valsOf Rows.laid_examiner_notation_partsOfValues).toArray
  let h5 := put h4 0 (valsOf Rows.laid_examiner_limits_valueKinds).toArray
  { w0 with heap := h5 }
theorem laid_met (os : Os) (args : Array Value) : laidMet Tryz.prog theLaid ((laidWorld os).forCall (fun _ _ => 0) ⟨#[], args, []⟩).memory :=
  laidMet_of_run3 12 (by kernel_rfl) (by kernel_rfl) (by kernel_rfl)

theorem span_cells : Tryz.prog.cellsOf 53 = 2 := by kernel_rfl
theorem spans_of {Q : Nat → Sp → Prop} : ∀ n, (∀ i, i < n → ∃ t, Q i t) → ∃ ts : List Sp, ts.length = n ∧ ∀ (i : Nat) t, ts[i]? = some t → Q i t
  | 0, _ => ⟨[], rfl, fun i t h => by simp at h⟩
  | n + 1, h => by
    obtain ⟨ts, h1, h2⟩ := spans_of n (fun i hi => h i (by omega))
    obtain ⟨t, ht⟩ := h n (by omega)
    refine ⟨ts ++ [t], by simp [h1], fun i u hu => ?_⟩
    rw [List.getElem?_append] at hu
    split at hu
    · exact h2 i u hu
    · rename_i hi
      have : i - ts.length = 0 := by
        have := (List.getElem?_eq_some_iff.1 hu).1
        simp at this; omega
      rw [this] at hu
      cases hu
      have : i = n := by omega
      subst this; exact ht
theorem spCells_at : ∀ (l : List Sp) (j : Nat) (u : Value), (spCells l)[j]? = some u → ∃ i s, l[i]? = some s ∧ ((j = i * 2 ∧ u = .int .i64 s.lo) ∨ (j = i * 2 + 1 ∧ u = .int .i64 s.hi))
  | [], j, u, h => by simp [spCells] at h
  | s :: t, 0, u, h => ⟨0, s, rfl, .inl ⟨rfl, by simpa [spCells] using h.symm⟩⟩
  | s :: t, 1, u, h => ⟨0, s, rfl, .inr ⟨rfl, by simpa [spCells] using h.symm⟩⟩
  | s :: t, j + 2, u, h => by
    obtain ⟨i, x, h1, h2⟩ := spCells_at t j u (by simpa [spCells] using h)
    exact ⟨i + 1, x, h1, by rcases h2 with ⟨e, h⟩ | ⟨e, h⟩
                            · exact .inl ⟨by omega, h⟩
                            · exact .inr ⟨by omega, h⟩⟩
set_option maxRecDepth 100000 in
theorem open_spans {H : Type} {enc : TypeId × Value → H} {W : World} {base : Nat} {v : Value} {d : DataW H} {p : List MemPlace} (hv : Value.okWide Tryz.prog W .any base 22 v)
    (h : DataW.Trod enc Tryz.prog W 0 (fun _ => true) true 22 v d p) : ∃ (xs : List Sp) (A : Option Addr) (c : Nat), v = .slice A xs.length c ∧ (A = none → c = 0) ∧ SpAt W.heap.size W A xs ∧ xs.length ≤ maxLen := by
  obtain ⟨fuel, hf⟩ := h
  obtain ⟨A, len, cap, rfl⟩ := okWide_slice Tryz.underlying22 hv
  rcases Go.Deep.open_slice_pairs Tryz.underlying22 Tryz.underlying53 span_cells rfl rfl (by kernel_rfl) (by kernel_rfl) hf with ⟨hcs, -⟩ | ⟨a, len', cap', m, n, V0, V1, D0, D1, P0, P1, hcs, -, hl, hm, hmm, -, hi⟩
  · have e : Value.slice A len cap = .slice none 0 0 := by simpa [Value.cells] using hcs
    injection e with e1 e2 e3
    subst e1; subst e2; subst e3
    exact ⟨[], none, 0, rfl, fun _ => rfl, .inl rfl, Nat.zero_le _⟩
  · have e : Value.slice A len cap = .slice (some a) len' cap' := by simpa [Value.cells] using hcs
    injection e with e1 e2 e3
    subst e1; subst e2; subst e3
    simp only [if_true] at hmm
    subst hmm
    have key : ∀ i, i < len → ∃ t : Sp, W.cell? (a.add (i * 2)) = some (.int .i64 t.lo) ∧ W.cell? (a.add (i * 2 + 1)) = some (.int .i64 t.hi) := by
      intro i hil
      obtain ⟨h0, h1, t0, t1⟩ := hi i (by omega)
      obtain ⟨x, e0, -, -⟩ := DataW.trod_int Tryz.underlying3 t0
      obtain ⟨y, e1, -, -⟩ := DataW.trod_int Tryz.underlying3 t1
      injection e0 with e0; injection e1 with e1
      rw [e0] at h0; rw [e1] at h1
      exact ⟨⟨x, y⟩, h0, h1⟩
    obtain ⟨xs, hlen, hxs⟩ := spans_of len key
    subst hlen
    refine ⟨xs, some a, _, rfl, (fun h => by cases h), ?_, Nat.le_trans hl hm⟩
    rcases xs with _ | ⟨x, r⟩
    · exact .inl rfl
    · have h0 := (hxs 0 x rfl).1
      have ha : a.add 0 = a := by unfold Addr.add; rw [if_pos rfl]
      rw [Nat.zero_mul, ha] at h0
      have hs := World.cell?_spot h0
      have hb := block_lt_of_cell h0
      obtain ⟨b, off, sp⟩ := a
      simp only at hs
      subst hs
      refine .inr ⟨b, off, rfl, hb, fun j u hu => ?_⟩
      obtain ⟨i, s, h1, h2⟩ := spCells_at _ j u hu
      obtain ⟨g0, g1⟩ := hxs i s h1
      have e : ∀ j, (({ block := b, off := off, spot := none } : Addr).add j) = ⟨b, off + j, none⟩ := fun j => by
        unfold Addr.add
        by_cases hj : j = 0 <;> simp [hj]
      rw [e] at g0 g1
      rcases h2 with ⟨rfl, rfl⟩ | ⟨rfl, rfl⟩
      · exact g0
      · exact g1
theorem laidOut : laidOutB Tryz.prog = true := by kernel_rfl
theorem law_post2 {H : Type} {enc : TypeId × Value → H} {f : Func} {s : ChangeSpec} {W W' : World} {args : Array Value} {ds : List (DataW H)} {before : List MemPlace}
    (hf : f.resultTypes = #[4]) (hs : s.fn H ds = { results := [.lit (.bool true)], args := ds }) (hv : s.vars = [])
    (hW : DataW.Whole enc Tryz.prog f.params.toList s.vars false W args.toList ds [] before)
    (hagain : DataW.TrodAll enc Tryz.prog W' 0 (fun b => decide (b < W.heap.size)) true f.params.toList args.toList ds before)
    (hb : Below W.heap.size W W') : s.post enc Tryz.prog f false true false false W args (.bool true) W' := by
  refine ⟨ds, [], before, [], before, [], hW, ?_, ?_, ?_, World.keptBut_mono (fun _ hp => ⟨hp, .inr (.inl hp)⟩) (hb.frame (· ∈ before)), fun h => by cases h⟩
  · rw [hf, List.append_nil, hs]
    exact trodAll_cons_mk (shut_bool Tryz.underlying4 _) trodAll_mk0
  · rw [List.append_nil, hs]
    exact hagain
  · rw [List.append_nil, hs, hv]
    exact rfl
end Go.Proofs.YtoelifebmhlokaaGreatDoor
