/- Contracts on the reference: the reserved words. -/
import Derived.Test.YtknbmnckegonlaaGreatDoorRefG
namespace Go.Proofs.YtknbmnckegonlaaGreatDoor
open Go.RowKit

/-- Strings as cells. -/
def strCells (ws : List (List UInt8)) : List Value := ws.map fun x => .string ⟨x.toArray⟩
theorem strs_new (w : World) (cs : Array Value) (t : TypeId) (ws : List (List UInt8)) (h : cs.toList = strCells ws) : Strs (w.alloc (.cells cs t)) w.heap.size ws := by
  intro j x hx
  rw [cell_new, ← Array.getElem?_toList, h]
  unfold strCells
  rw [List.getElem?_map, hx]; rfl
set_option maxRecDepth 100000 in
set_option maxHeartbeats 4000000 in
theorem asnWords_any (w : World) : Calls Tryz.prog 51 #[] w fun e w' => e = .returned (.slice (some ⟨w.heap.size, 0, none⟩) 49 49) ∧ Strs w' w.heap.size asnW ∧ Fr w.heap.size w w' := by
  have hf := Fr.self w
  go_enter Tryz.func51, Tryz.ntmps51
  go_wp2
  go_ret
  exact ⟨rfl, strs_new _ _ _ asnW (by kernel_rfl), hf.alloc _⟩
theorem wpList_value {P : Program} {ops : Array Oper} {rest : List Oper} {o : Oper} {a : Act} {w w2 : World} {v : Value} {Q : Exit → Act → World → Prop} (hgd : o.guard = none)
    (hrun : (execOp a.eval o).run P w = .ok (.value v) w2) (h : wpList P ops Q rest (a.put o.dst v) w2) : wpList P ops Q (o :: rest) a w :=
  wpList_plain hgd fun K hK => by
    unfold Oper.wp
    rw [hrun, Oper.upon_value]
    exact hK _ _ h
set_option maxRecDepth 100000 in
set_option maxHeartbeats 4000000 in
theorem ttcnWords_any (w : World) : Calls Tryz.prog 52 #[] w fun e w' => e = .returned (.slice (some ⟨w.heap.size, 0, none⟩) 146 146) ∧ Strs w' w.heap.size ttcnW ∧ Fr w.heap.size w w' := by
  have hf := Fr.self w
  go_enter Tryz.func52, Tryz.ntmps52
  go_wp2_with (refine wpList_value (v := .slice (some ⟨w.heap.size, 0, none⟩) 146 146) (w2 := w.alloc (.cells (strCells ttcnW).toArray 9)) rfl (by kernel_rfl) ?_)
  go_ret
  exact ⟨rfl, strs_new _ _ _ ttcnW (by kernel_rfl), hf.alloc _⟩
/-- The reserved words, as the reference lays them. -/
theorem rWords_any (lang : Int) (hlang : lang = 0 ∨ lang = 1) (w : World) :
    Calls Tryz.prog 27 #[.int .i64 lang] w fun e w' => e = .returned (.slice (some ⟨w.heap.size, 0, none⟩) (wordsOf lang).length (wordsOf lang).length) ∧ Strs w' w.heap.size (wordsOf lang) ∧ Fr w.heap.size w w' := by
  have Ha := Lib.hid (asnWords_any w)
  have Ht := Lib.hid (ttcnWords_any w)
  rcases hlang with rfl | rfl
  · go_enter Tryz.func27, Tryz.ntmps27
    go_wp2_with (go_at_call 51; refine (Ha.out).mono ?_; rintro e w' ⟨rfl, hst, hf⟩)
    go_ret
    exact ⟨rfl, hst, hf⟩
  · go_enter Tryz.func27, Tryz.ntmps27
    go_wp2_with (go_at_call 52; refine (Ht.out).mono ?_; rintro e w' ⟨rfl, hst, hf⟩)
    go_ret
    exact ⟨rfl, hst, hf⟩
end Go.Proofs.YtknbmnckegonlaaGreatDoor
