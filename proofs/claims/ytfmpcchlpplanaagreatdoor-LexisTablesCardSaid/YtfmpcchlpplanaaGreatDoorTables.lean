/- Contracts on the tables of a language: its reserved words and its symbols, ascending, and which strings are its names. -/
import Derived.Test.YtfmpcchlpplanaaGreatDoorRefG
import Derived.Test.YtfmpcchlpplanaaGreatDoorRefC
import Derived.Sort.OwnSorted
namespace Go.Proofs.YtfmpcchlpplanaaGreatDoor
open Go.RowKit Go.Sort

/-- The library's table of blanks holds what its initialiser lays. -/
def Tab (w : World) : Prop := Lib.TabIs Tryz.prog w "strings.asciiSpace" .u8 Lib.asciiSpaceTab
theorem Tab.below {w w' : World} (h : Tab w) (hb : Below w.heap.size w w') : Tab w' := by
  have hgn : Tryz.prog.globalNamed "strings.asciiSpace" = some 0 := by kernel_rfl
  unfold Tab Lib.TabIs World.var? at h ⊢
  rw [hgn] at h ⊢
  simp only [Option.bind_some] at h ⊢
  have hlt : 0 < w.heap.size := by
    rcases Nat.lt_or_ge 0 w.heap.size with h' | h'
    · exact h'
    · rw [Array.getElem?_eq_none h'] at h; cases h
  rw [hb.block _ hlt]
  exact h
theorem Tab.fr {w0 w : World} (h : Hid (Tab w0)) (hf : Fr w0.heap.size w0 w) : Hid (Tab w) := h.out.below hf.2

theorem sort_eq (ws srt : List (List UInt8)) (hp : srt.isPerm ws = true) (hs : srt.Pairwise (fun a b => decide (a ≤ b) = true)) : ws.mergeSort (fun x y => decide (x ≤ y)) = srt :=
  List.Perm.eq_of_pairwise (le := fun a b => decide (a ≤ b) = true) (fun a b _ _ h1 h2 => List.le_antisymm (of_decide_eq_true h1) (of_decide_eq_true h2))
    (List.pairwise_mergeSort (le := fun (x y : List UInt8) => decide (x ≤ y)) (fun a b c h1 h2 => decide_eq_true (List.le_trans (of_decide_eq_true h1) (of_decide_eq_true h2))) (fun a b => by rw [Bool.or_eq_true, decide_eq_true_eq, decide_eq_true_eq]; exact List.le_total a b) ws) hs
    ((List.mergeSort_perm ws _).trans (List.isPerm_iff.1 hp).symm)
theorem words_sorted (lang : Int) : (wordsOf lang).mergeSort (fun x y => decide (x ≤ y)) = wordsOf lang := by
  unfold wordsOf
  split
  · exact sort_eq _ _ (by decide +kernel) (by decide +kernel)
  · exact sort_eq _ _ (by decide +kernel) (by decide +kernel)
theorem syms_sorted (lang : Int) : (symsOf lang).mergeSort (fun x y => decide (x ≤ y)) = putAll (symsOf lang) := by
  unfold symsOf
  split
  · exact sort_eq _ _ (by decide +kernel) (by decide +kernel)
  · exact sort_eq _ _ (by decide +kernel) (by decide +kernel)
theorem words_fields (lang : Int) : Lib.fields (listT (wordsOf lang)) = wordsOf lang := by
  unfold wordsOf; split <;> decide +kernel
theorem syms_fields (lang : Int) : Lib.fields (listT (symsOf lang)) = symsOf lang := by
  unfold symsOf; split <;> decide +kernel
theorem words_ascii (lang : Int) (j : Nat) (b : UInt8) (h : (listT (wordsOf lang))[j]? = some b) : b.toNat < 128 := by
  have : (listT (wordsOf lang)).all (fun b => decide (b.toNat < 128)) = true := by unfold wordsOf; split <;> decide +kernel
  exact of_decide_eq_true (List.all_eq_true.1 this b (List.mem_of_getElem? h))
theorem syms_ascii (lang : Int) (j : Nat) (b : UInt8) (h : (listT (symsOf lang))[j]? = some b) : b.toNat < 128 := by
  have : (listT (symsOf lang)).all (fun b => decide (b.toNat < 128)) = true := by unfold symsOf; split <;> decide +kernel
  exact of_decide_eq_true (List.all_eq_true.1 this b (List.mem_of_getElem? h))
theorem words_len (lang : Int) : 0 < (wordsOf lang).length ∧ (wordsOf lang).length ≤ 1000 := by
  unfold wordsOf; split <;> decide +kernel
theorem syms_len (lang : Int) : 0 < (putAll (symsOf lang)).length ∧ (symsOf lang).length ≤ 1000 ∧ (putAll (symsOf lang)).length ≤ 1000 := by
  unfold symsOf; split <;> decide +kernel

set_option maxRecDepth 100000 in
theorem ascending_any (l : List UInt8) (ws srt : List (List UInt8)) (w : World) (hl : (ByteArray.mk l.toArray).size < 4294967281) (ha : ∀ (j : Nat) b, l[j]? = some b → b.toNat < 128) (hf : Lib.fields l = ws)
    (hs : ws.mergeSort (fun x y => decide (x ≤ y)) = srt) (hn : ws.length ≤ 1000) (ht : Hid (Tab w)) :
    Calls Tryz.prog 18 #[.string ⟨l.toArray⟩] w fun e w' => e = .returned (.slice (some ⟨w.heap.size, 0, none⟩) srt.length srt.length) ∧ Strs w' w.heap.size srt ∧ w.heap.size < w'.heap.size ∧ Fr w.heap.size w w' := by
  have hlen : srt.length = ws.length := by rw [← hs, List.length_mergeSort]
  have hfi := Tryz.strings_Fields_laid ⟨l.toArray⟩ w hl ha ht.out
  rw [show Lib.fields (ByteArray.mk l.toArray).data.toList = ws from hf] at hfi
  have hb0 : (w.alloc (.cells (strCells ws).toArray 9)).heap[w.heap.size]? = some (.cells (strCells ws).toArray 9 (0, 0)) := heap_alloc_new w _
  have hH := holds_of_block (ss := ws) hb0 (by rw [show (strCells ws).toArray.toList = ws.map encStr from rfl, List.take_of_length_le (by simp)])
  have hso := Tryz.slices_Sort_string w.heap.size 0 ws.length ws _ hH (by simp) (by omega)
  rw [hs] at hso
  have Hfi := Lib.hid hfi; have Hso := Lib.hid hso; have Hb := Lib.hid hb0; have Hlen := Lib.hid hlen
  have hfr := Fr.self w
  clear hfi hso hb0 hH hf hs ha hlen
  go_enter Tryz.func18, Tryz.ntmps18
  go_wp2_with fail
  refine (Hfi.out).mono ?_
  rintro e w1 ⟨rfl, rfl⟩
  go_wp2_with fail
  refine (Hso.out).mono ?_
  rintro e w2 ⟨rfl, n, os, rfl⟩
  have hown := ownsRow_sorted (n := n) (os := os) (ss := ws) (ts := srt) (base := w.heap.size) (cap := ws.length) Hlen.out (Nat.le_refl _) Hb.out (Nat.le_refl _) (by unfold maxLen; omega) (by simp [strCells])
  have hfr2 : Fr w.heap.size w (grow (putRow encStr (Sort.ahead (w.alloc (.cells (strCells ws).toArray 9)) n) w.heap.size 0 srt.toArray) os) := (hfr.alloc _).grown (grownBy_sorted _) (fun k hk => by cases hk; exact Nat.le_refl _)
  have Hown := Lib.hid hown; have Hfr2 := Lib.hid hfr2; clear hown hfr2
  go_wp2_with fail
  go_ret
  refine ⟨by rw [Hlen.out]; rfl, ?_, ?_, Hfr2.out⟩
  · rcases own_cases Hown.out with ⟨h0, -⟩ | ⟨g, cap, h0, -, hlt, -, hc⟩
    · cases h0
    · cases h0
      intro j x hx
      exact hc j _ (by rw [List.getElem?_map, hx]; rfl)
  · simp; omega
end Go.Proofs.YtfmpcchlpplanaaGreatDoor
