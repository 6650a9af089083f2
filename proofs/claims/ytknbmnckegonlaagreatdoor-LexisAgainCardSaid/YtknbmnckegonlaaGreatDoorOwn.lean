/- The contract on tokens in memory of their own. -/
import Derived.Test.YtknbmnckegonlaaGreatDoorJoin
import Derived.Laws.AppendOwnNone
namespace Go.Proofs.YtknbmnckegonlaaGreatDoor
open Go.RowKit

theorem tokCells_len : ∀ ts : List Tok, (tokCells ts).length = ts.length * 3
  | [] => rfl
  | t :: r => by
    show ([_, _, _] ++ tokCells r).length = (r.length + 1) * 3
    rw [List.length_append, tokCells_len r]; simp; omega
/-- Tokens as an argument holds them: none at all, or in a row. -/
def TokArg (w : World) (v : Value) (ts : List Tok) : Prop :=
  (v = .slice none 0 0 ∧ ts = []) ∨ ∃ ad cap, v = .slice (some ad) ts.length cap ∧ ∀ (j : Nat) (u : Value), (tokCells ts)[j]? = some u → w.cell? (ad.add j) = some u
set_option maxRecDepth 100000 in
theorem ownTokens_any (v : Value) (ts : List Tok) (w : World) (hv : TokArg w v ts) (hlen : ts.length ≤ 100000) :
    Calls Tryz.prog 34 #[v] w fun e w' => (∃ v', e = .returned v' ∧ w'.ownsRow w.heap.size 43 3 v' ts.length (tokCells ts)) ∧ Fr w.heap.size w w' := by
  have hf := (Fr.self w).alloc (.cells #[] 43)
  have hown : (w.alloc (.cells #[] 43)).ownsRow w.heap.size 43 3 (.slice (some ⟨w.heap.size, 0, none⟩) 0 0) 0 [] :=
    ⟨rfl, .inr ⟨w.heap.size, 0, #[], rfl, Nat.le_refl _, heap_alloc_new _ _, Nat.le_refl _, by decide, rfl, rfl⟩⟩
  obtain ⟨i0, hi0, hz0, hz1, hz2⟩ := info_parts token_info
  have Hown := Lib.hid hown; clear hown
  rcases hv with ⟨rfl, rfl⟩ | ⟨ad, cap, rfl, hc⟩
  · go_enter Tryz.func34, Tryz.ntmps34
    go_wp2_with (at_builtin; refine wpList_append_own_none rfl _ _ 33 rfl w.heap.size 43 i0 3 Tryz.underlying33 hi0 _ _ _ rfl Hown.out rfl ?_)
    go_ret
    exact ⟨⟨_, rfl, Hown.out⟩, hf⟩
  · have Hc := Lib.hid hc; clear hc
    have hcl := tokCells_len ts
    have h1 : ∀ u ∈ tokCells ts, u.oneCell' = true := by
      intro u hu
      unfold tokCells at hu
      rw [List.mem_flatMap] at hu
      obtain ⟨t, -, ht⟩ := hu
      simp at ht
      rcases ht with rfl | rfl | rfl <;> rfl
    have Hcl := Lib.hid hcl; have H1 := Lib.hid h1; clear hcl h1
    go_enter Tryz.func34, Tryz.ntmps34
    go_wp2_with (at_builtin; refine wpList_append_own _ rfl _ _ 33 rfl w.heap.size 43 i0 _ 3 32 Tryz.underlying33 hi0 hz0 hz1 hz2 rfl (by decide) _ _ _ rfl Hown.out ad ts.length cap (tokCells ts) rfl Hcl.out ?d1 H1.out ?d3 ?d4 ?d5 ?_)
    case d1 => exact fun j u hu => (hf.cell (block_lt_of_cell (Hc.out j u hu))).trans (Hc.out j u hu)
    case d3 => unfold maxLen; omega
    case d4 => omega
    case d5 => simp
    intro v' w3 hown3 hg3 _
    have hfr3 : Fr w.heap.size w w3 := hf.grown hg3 (fun g hg => by simp [Value.ownBlock] at hg; omega)
    have Hown3 := Lib.hid hown3
    clear hg3 hown3
    go_wp2_with fail
    go_ret
    exact ⟨⟨_, rfl, by have := Hown3.out; simpa using this⟩, hfr3⟩
end Go.Proofs.YtknbmnckegonlaaGreatDoor
