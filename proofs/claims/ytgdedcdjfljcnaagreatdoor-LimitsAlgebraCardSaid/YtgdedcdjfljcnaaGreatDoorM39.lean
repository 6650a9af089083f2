/- Contracts on copies of numbers: OwnInts. -/
import Derived.Test.YtgdedcdjfljcnaaGreatDoorM37
import Derived.Test.YtgdedcdjfljcnaaGreatDoorM38
namespace Go.Proofs.YtgdedcdjfljcnaaGreatDoor
open Go.RowKit

def intC (l : List Int) : List Value := l.map fun x => .int .i64 x
theorem int_info1 : (Tryz.prog.info? 3).map (fun i => (i.zero, i.size, i.bytes)) = some (some (.int .i64 0), 1, 8) := by kernel_rfl
theorem rows_ints {S : Nat → Prop} {w : World} {A : Option Addr} {l : List Int} (h : RowsS S w 1 A l.length (itemCells (fun a => [.int .i64 a]) l)) (hl : l ≠ []) : ∃ b off, A = some ⟨b, off, none⟩ ∧ S b ∧ ∀ (j : Nat) x, l[j]? = some x → w.cell? ⟨b, off + j, none⟩ = some (.int .i64 x) := by
  rcases h with h | ⟨b, off, h1, h2, h3⟩
  · exact absurd (List.eq_nil_of_length_eq_zero h) hl
  · refine ⟨b, off, h1, h2, fun j x hx => ?_⟩
    have hj := (List.getElem?_eq_some_iff.1 hx).1
    have := h3 j hj 0 (.int .i64 x) (by unfold itemCells; rw [hx]; rfl)
    rwa [Nat.mul_one, Nat.add_zero] at this
set_option maxRecDepth 100000 in
theorem ownInts_any {S : Nat → Prop} (l : List Int) (A : Option Addr) (ca : Nat) (w : World) (h0 : A = none → ca = 0) (h : RowsS S w 1 A l.length (itemCells (fun a => [.int .i64 a]) l)) (hlen : l.length ≤ 1000) :
    Calls Tryz.prog 49 #[.slice A l.length ca] w fun e w' => (∃ A' ca', e = .returned (.slice A' l.length ca') ∧ SliceOk A' l.length ca' ∧ RowsS (fun b => w.heap.size ≤ b ∧ b < w'.heap.size) w' 1 A' l.length (itemCells (fun a => [.int .i64 a]) l)) ∧ Fr w.heap.size w w' := by
  have hf := (Fr.self w).alloc (.cells #[] 3)
  have hown : (w.alloc (.cells #[] 3)).ownsRow w.heap.size 3 1 (.slice (some ⟨w.heap.size, 0, none⟩) 0 0) 0 [] :=
    ⟨rfl, .inr ⟨w.heap.size, 0, #[], rfl, Nat.le_refl _, heap_alloc_new _ _, Nat.le_refl _, by decide, rfl, rfl⟩⟩
  obtain ⟨i0, hi0, hz0, hz1, hz2⟩ := info_of int_info1
  have Hown := Lib.hid hown; clear hown
  cases A with
  | none =>
    have hw : l = [] := by
      by_cases hl : l = []
      · exact hl
      · obtain ⟨b, off, hA, -⟩ := rows_ints h hl
        cases hA
    subst hw
    obtain rfl := h0 rfl
    clear h h0
    go_enter Tryz.func49, Tryz.ntmps49
    go_wp2_with (at_builtin; refine wpList_append_own_none rfl _ _ 64 rfl w.heap.size 3 i0 1 Tryz.underlying64 hi0 _ _ _ rfl Hown.out rfl ?_)
    go_ret
    exact ⟨⟨_, _, rfl, ⟨fun h => (by cases h), Nat.zero_le _, Nat.zero_le _⟩, .inl rfl⟩, hf⟩
  | some ad =>
    have hc : ∀ j u, (intC l)[j]? = some u → (w.alloc (.cells #[] 3)).cell? (ad.add j) = some u := by
      intro j u hu
      unfold intC at hu
      rw [List.getElem?_map] at hu
      obtain ⟨x, hx, rfl⟩ := Option.map_eq_some_iff.1 hu
      have hne : l ≠ [] := by rintro rfl; simp at hx
      obtain ⟨b, off, hA, -, hcl⟩ := rows_ints h hne
      injection hA with hA
      subst hA
      rw [add_off]
      have h1 := hcl j x hx
      exact (hf.cell (p := ⟨b, off + j, none⟩) (cell_block h1)).trans h1
    have hcl : (intC l).length = l.length * 1 := by simp [intC]
    have h1 : ∀ u ∈ intC l, u.oneCell' = true := by
      intro u hu
      unfold intC at hu
      rw [List.mem_map] at hu
      obtain ⟨t, -, rfl⟩ := hu
      rfl
    have Hc := Lib.hid hc; have Hcl := Lib.hid hcl; have H1 := Lib.hid h1; clear hcl h1 hc h h0
    go_enter Tryz.func49, Tryz.ntmps49
    go_wp2_with (at_builtin; refine wpList_append_own _ rfl _ _ 64 rfl w.heap.size 3 i0 _ 1 8 Tryz.underlying64 hi0 hz0 hz1 hz2 rfl (by decide) _ _ _ rfl Hown.out ad l.length ca (intC l) rfl Hcl.out Hc.out H1.out ?d3 ?d4 ?d5 ?_)
    case d3 => unfold maxLen; omega
    case d4 => omega
    case d5 => simp
    intro v' w3 hown3 hg3 hnil
    have hfr3 : Fr w.heap.size w w3 := hf.grown hg3 (fun g hg => by simp [Value.ownBlock] at hg; omega)
    have Hown3 := Lib.hid hown3
    clear hg3 hown3
    go_wp2_with fail
    go_ret
    refine ⟨?_, hfr3⟩
    have ho := Hown3.out
    rcases row_cases ho with ⟨rfl, hn, -⟩ | ⟨g, cap, rfl, hg1, hg2, hgc, hcells⟩
    · exact (hnil rfl).elim
    · refine ⟨_, _, rfl, ⟨fun h => (by cases h), hgc, by unfold maxLen; omega⟩, .inr ⟨g, 0, rfl, ⟨hg1, hg2⟩, fun i hi j u hu => ?_⟩⟩
      obtain ⟨x, hx⟩ : ∃ x, l[i]? = some x := ⟨_, List.getElem?_eq_getElem hi⟩
      unfold itemCells at hu
      rw [hx] at hu
      rcases j with _ | j
      · cases hu
        rw [Nat.zero_add, Nat.mul_one, Nat.add_zero]
        exact hcells i _ (by unfold intC; rw [List.getElem?_map, hx]; rfl)
      · simp at hu
end Go.Proofs.YtgdedcdjfljcnaaGreatDoor
