/- A copy of a type of whole numbers with tags and a constraint alone: OwnType. -/
import Derived.Test.YtgdedcdjfljcnaaGreatDoorM40
import Derived.Test.YtgdedcdjfljcnaaGreatDoorM09
import Derived.Test.YtgdedcdjfljcnaaGreatDoorM41
namespace Go.Proofs.YtgdedcdjfljcnaaGreatDoor
open Go.RowKit

def tagC : List TG → List Value
  | [] => []
  | x :: t => .int .i64 x.cls :: .int .i64 x.num :: .int .i64 x.way :: tagC t
theorem tagC_length : ∀ l, (tagC l).length = l.length * 3
  | [] => rfl
  | x :: t => by rw [tagC, List.length_cons, List.length_cons, List.length_cons, tagC_length t, List.length_cons]; omega
theorem tagC_get : ∀ (l : List TG) (i : Nat) (x : TG), l[i]? = some x → (tagC l)[i * 3]? = some (.int .i64 x.cls) ∧ (tagC l)[i * 3 + 1]? = some (.int .i64 x.num) ∧ (tagC l)[i * 3 + 2]? = some (.int .i64 x.way)
  | [], i, x, h => by simp at h
  | g :: t, 0, x, h => by
    simp at h
    subst h
    exact ⟨rfl, rfl, rfl⟩
  | g :: t, i + 1, x, h => by
    have ih := tagC_get t i x (by simpa using h)
    have e : ∀ j, (tagC (g :: t))[(i + 1) * 3 + j]? = (tagC t)[i * 3 + j]? := fun j => by
      rw [tagC, (by omega : (i + 1) * 3 + j = (i * 3 + j) + 1 + 1 + 1), List.getElem?_cons_succ, List.getElem?_cons_succ, List.getElem?_cons_succ]
    have e0 := e 0
    rw [Nat.add_zero, Nat.add_zero] at e0
    rw [e0, e 1, e 2]
    exact ih
theorem tagC_at : ∀ (l : List TG) (j : Nat) (u : Value), (tagC l)[j]? = some u → ∃ i x, l[i]? = some x ∧ ((j = i * 3 ∧ u = .int .i64 x.cls) ∨ (j = i * 3 + 1 ∧ u = .int .i64 x.num) ∨ (j = i * 3 + 2 ∧ u = .int .i64 x.way))
  | [], j, u, h => by simp [tagC] at h
  | x :: t, 0, u, h => ⟨0, x, rfl, .inl ⟨rfl, by simpa [tagC] using h.symm⟩⟩
  | x :: t, 1, u, h => ⟨0, x, rfl, .inr (.inl ⟨rfl, by simpa [tagC] using h.symm⟩)⟩
  | x :: t, 2, u, h => ⟨0, x, rfl, .inr (.inr ⟨rfl, by simpa [tagC] using h.symm⟩)⟩
  | x :: t, j + 3, u, h => by
    obtain ⟨i, y, h1, h2⟩ := tagC_at t j u (by simpa [tagC] using h)
    refine ⟨i + 1, y, h1, ?_⟩
    rcases h2 with ⟨e, h⟩ | ⟨e, h⟩ | ⟨e, h⟩
    · exact .inl ⟨by omega, h⟩
    · exact .inr (.inl ⟨by omega, h⟩)
    · exact .inr (.inr ⟨by omega, h⟩)
theorem RowN.keep {w0 w w' : World} {v : Value} {xs : List LN} (h : RowN w0 w v xs) (hb : ∀ b, w0.heap.size ≤ b → b < w.heap.size → w'.heap[b]? = w.heap[b]?) (hs : w.heap.size ≤ w'.heap.size) : RowN w0 w' v xs := by
  obtain ⟨css, h1, h2, h3⟩ := h
  exact ⟨css, h1, own_block h2 (fun b hv => hb b (own_lt h2 hv).1 (own_lt h2 hv).2), fun i y c hy hc => (h3 i y c hy hc).keep (fun b hf => hb b hf.1.1 hf.1.2) (fun b hf => ⟨⟨hf.1.1, Nat.lt_of_lt_of_le hf.1.2 hs⟩, hf.2⟩)⟩
theorem tag_info : (Tryz.prog.info? 168).map (fun i => (i.zero, i.size, i.bytes)) = some (some (.agg #[.int .i64 0, .int .i64 0, .int .i64 0]), 3, 24) := by kernel_rfl
theorem ownTypes_nil (A : Option Addr) (c : Nat) (w : World) : Calls Tryz.prog 28 #[.slice A 0 c] w fun e w' => e = .returned (.slice none 0 0) ∧ w = w' := by
  go_enter Tryz.func28, Tryz.ntmps28
  go_wp2_with fail
  refine wp_loop_rounds 1 ?_
  rw [rounds_succ]
  go_wp2_with fail
  go_ret
  exact ⟨rfl, rfl⟩
theorem typ_res {fn : Func} {p : Tmp} (h : fn.results = #[.cell p 28]) {tmps : Array Value} {W : World} {g : Nat} {a b c d e f k l : Value} (hp : tmps.getD p undef = .pointer (some ⟨g, 0, none⟩))
    (hg : W.heap[g]? = some (.cells #[a, b, c, d, e, f, k, l] 28 (0, 0))) : (results fn tmps).run Tryz.prog W = .ok (.agg #[a, b, c, d, e, f, k, l]) W :=
  results_cell_row h tmps W g _ _ (0, 0) _ hp hg Tryz.underlying28 rfl (by kernel_rfl)
set_option maxRecDepth 100000 in
set_option maxHeartbeats 4000000 in
theorem ownType_flat {B : Nat} (tags : List TG) (l : List LN) (A1 A2 A3 A4 : Option Addr) (c1 c2 c3 c4 : Nat) (w : World) (hT : TagAt B w A1 tags) (h10 : A1 = none → tags.length = 0 ∧ c1 = 0) (h : LimAt B w A4 l) (hB : B ≤ w.heap.size) (ht : tags.length ≤ 3) (hm : l.length ≤ 40) (ha : ∀ x ∈ l, x.args.length ≤ 1000) (hok : ∀ x ∈ l, NodeOk x) (hne : l ≠ []) :
    Calls Tryz.prog 10 #[.agg #[.int .i64 2, .string ⟨#[]⟩, .slice A1 tags.length c1, .slice A2 0 c2, .bool false, .int .i64 0, .slice A3 0 c3, .slice A4 l.length c4]] w fun e w' => (∃ TA tc b off c, e = .returned (.agg #[.int .i64 2, .string ⟨#[]⟩, .slice TA tags.length tc, .slice none 0 0, .bool false, .int .i64 0, .slice none 0 0, .slice (some ⟨b, off, none⟩) l.length c]) ∧ (TA = none → tags.length = 0 ∧ tc = 0) ∧ TagAt w'.heap.size w' TA tags ∧ LimAt w'.heap.size w' (some ⟨b, off, none⟩) l) ∧ Fr w.heap.size w w' := by
  obtain ⟨i0, hi0, hz0, hz1, hz2⟩ := info_of tag_info
  have hf4 := ((((Fr.self w).alloc (.cells #[.int .i64 2, .string ⟨#[]⟩, .slice A1 tags.length c1, .slice A2 0 c2, .bool false, .int .i64 0, .slice A3 0 c3, .slice A4 l.length c4] 28)).alloc (.cells #[.int .i64 0, .string ⟨#[]⟩, .slice none 0 0, .slice none 0 0, .bool false, .int .i64 0, .slice none 0 0, .slice none 0 0] 28)).alloc (.cells #[.int .i64 2, .string ⟨#[]⟩, .slice A1 tags.length c1, .slice A2 0 c2, .bool false, .int .i64 0, .slice A3 0 c3, .slice A4 l.length c4] 28)).alloc (.cells #[] 168)
  have hs3 : (((w.alloc (.cells #[.int .i64 2, .string ⟨#[]⟩, .slice A1 tags.length c1, .slice A2 0 c2, .bool false, .int .i64 0, .slice A3 0 c3, .slice A4 l.length c4] 28)).alloc (.cells #[.int .i64 0, .string ⟨#[]⟩, .slice none 0 0, .slice none 0 0, .bool false, .int .i64 0, .slice none 0 0, .slice none 0 0] 28)).alloc (.cells #[.int .i64 2, .string ⟨#[]⟩, .slice A1 tags.length c1, .slice A2 0 c2, .bool false, .int .i64 0, .slice A3 0 c3, .slice A4 l.length c4] 28)).heap.size = w.heap.size + 3 := by simp
  have hs4 : ((((w.alloc (.cells #[.int .i64 2, .string ⟨#[]⟩, .slice A1 tags.length c1, .slice A2 0 c2, .bool false, .int .i64 0, .slice A3 0 c3, .slice A4 l.length c4] 28)).alloc (.cells #[.int .i64 0, .string ⟨#[]⟩, .slice none 0 0, .slice none 0 0, .bool false, .int .i64 0, .slice none 0 0, .slice none 0 0] 28)).alloc (.cells #[.int .i64 2, .string ⟨#[]⟩, .slice A1 tags.length c1, .slice A2 0 c2, .bool false, .int .i64 0, .slice A3 0 c3, .slice A4 l.length c4] 28)).alloc (.cells #[] 168)).heap.size = w.heap.size + 4 := by simp
  have b0 : ((((w.alloc (.cells #[.int .i64 2, .string ⟨#[]⟩, .slice A1 tags.length c1, .slice A2 0 c2, .bool false, .int .i64 0, .slice A3 0 c3, .slice A4 l.length c4] 28)).alloc (.cells #[.int .i64 0, .string ⟨#[]⟩, .slice none 0 0, .slice none 0 0, .bool false, .int .i64 0, .slice none 0 0, .slice none 0 0] 28)).alloc (.cells #[.int .i64 2, .string ⟨#[]⟩, .slice A1 tags.length c1, .slice A2 0 c2, .bool false, .int .i64 0, .slice A3 0 c3, .slice A4 l.length c4] 28)).alloc (.cells #[] 168)).heap[w.heap.size]? = some (.cells #[.int .i64 2, .string ⟨#[]⟩, .slice A1 tags.length c1, .slice A2 0 c2, .bool false, .int .i64 0, .slice A3 0 c3, .slice A4 l.length c4] 28 (0, 0)) := (Below.heap_alloc _ _ _ (by simp <;> omega)).trans ((Below.heap_alloc _ _ _ (by simp <;> omega)).trans ((Below.heap_alloc _ _ _ (by simp <;> omega)).trans (heap_alloc_new w _)))
  have b1 : ((((w.alloc (.cells #[.int .i64 2, .string ⟨#[]⟩, .slice A1 tags.length c1, .slice A2 0 c2, .bool false, .int .i64 0, .slice A3 0 c3, .slice A4 l.length c4] 28)).alloc (.cells #[.int .i64 0, .string ⟨#[]⟩, .slice none 0 0, .slice none 0 0, .bool false, .int .i64 0, .slice none 0 0, .slice none 0 0] 28)).alloc (.cells #[.int .i64 2, .string ⟨#[]⟩, .slice A1 tags.length c1, .slice A2 0 c2, .bool false, .int .i64 0, .slice A3 0 c3, .slice A4 l.length c4] 28)).alloc (.cells #[] 168)).heap[w.heap.size + 1]? = some (.cells #[.int .i64 0, .string ⟨#[]⟩, .slice none 0 0, .slice none 0 0, .bool false, .int .i64 0, .slice none 0 0, .slice none 0 0] 28 (0, 0)) := (Below.heap_alloc _ _ _ (by simp <;> omega)).trans ((Below.heap_alloc _ _ _ (by simp <;> omega)).trans (by have := heap_alloc_new (w.alloc (.cells #[.int .i64 2, .string ⟨#[]⟩, .slice A1 tags.length c1, .slice A2 0 c2, .bool false, .int .i64 0, .slice A3 0 c3, .slice A4 l.length c4] 28)) (.cells #[.int .i64 0, .string ⟨#[]⟩, .slice none 0 0, .slice none 0 0, .bool false, .int .i64 0, .slice none 0 0, .slice none 0 0] 28); rwa [World.size_alloc] at this))
  have b2 : ((((w.alloc (.cells #[.int .i64 2, .string ⟨#[]⟩, .slice A1 tags.length c1, .slice A2 0 c2, .bool false, .int .i64 0, .slice A3 0 c3, .slice A4 l.length c4] 28)).alloc (.cells #[.int .i64 0, .string ⟨#[]⟩, .slice none 0 0, .slice none 0 0, .bool false, .int .i64 0, .slice none 0 0, .slice none 0 0] 28)).alloc (.cells #[.int .i64 2, .string ⟨#[]⟩, .slice A1 tags.length c1, .slice A2 0 c2, .bool false, .int .i64 0, .slice A3 0 c3, .slice A4 l.length c4] 28)).alloc (.cells #[] 168)).heap[w.heap.size + 2]? = some (.cells #[.int .i64 2, .string ⟨#[]⟩, .slice A1 tags.length c1, .slice A2 0 c2, .bool false, .int .i64 0, .slice A3 0 c3, .slice A4 l.length c4] 28 (0, 0)) := (Below.heap_alloc _ _ _ (by simp <;> omega)).trans (by have := heap_alloc_new ((w.alloc (.cells #[.int .i64 2, .string ⟨#[]⟩, .slice A1 tags.length c1, .slice A2 0 c2, .bool false, .int .i64 0, .slice A3 0 c3, .slice A4 l.length c4] 28)).alloc (.cells #[.int .i64 0, .string ⟨#[]⟩, .slice none 0 0, .slice none 0 0, .bool false, .int .i64 0, .slice none 0 0, .slice none 0 0] 28)) (.cells #[.int .i64 2, .string ⟨#[]⟩, .slice A1 tags.length c1, .slice A2 0 c2, .bool false, .int .i64 0, .slice A3 0 c3, .slice A4 l.length c4] 28); rwa [World.size_alloc, World.size_alloc] at this)
  have b3 : ((((w.alloc (.cells #[.int .i64 2, .string ⟨#[]⟩, .slice A1 tags.length c1, .slice A2 0 c2, .bool false, .int .i64 0, .slice A3 0 c3, .slice A4 l.length c4] 28)).alloc (.cells #[.int .i64 0, .string ⟨#[]⟩, .slice none 0 0, .slice none 0 0, .bool false, .int .i64 0, .slice none 0 0, .slice none 0 0] 28)).alloc (.cells #[.int .i64 2, .string ⟨#[]⟩, .slice A1 tags.length c1, .slice A2 0 c2, .bool false, .int .i64 0, .slice A3 0 c3, .slice A4 l.length c4] 28)).alloc (.cells #[] 168)).heap[w.heap.size + 3]? = some (.cells #[] 168 (0, 0)) := by have := heap_alloc_new (((w.alloc (.cells #[.int .i64 2, .string ⟨#[]⟩, .slice A1 tags.length c1, .slice A2 0 c2, .bool false, .int .i64 0, .slice A3 0 c3, .slice A4 l.length c4] 28)).alloc (.cells #[.int .i64 0, .string ⟨#[]⟩, .slice none 0 0, .slice none 0 0, .bool false, .int .i64 0, .slice none 0 0, .slice none 0 0] 28)).alloc (.cells #[.int .i64 2, .string ⟨#[]⟩, .slice A1 tags.length c1, .slice A2 0 c2, .bool false, .int .i64 0, .slice A3 0 c3, .slice A4 l.length c4] 28)) (.cells #[] 168); rwa [World.size_alloc, World.size_alloc, World.size_alloc] at this
  have hown : ((((w.alloc (.cells #[.int .i64 2, .string ⟨#[]⟩, .slice A1 tags.length c1, .slice A2 0 c2, .bool false, .int .i64 0, .slice A3 0 c3, .slice A4 l.length c4] 28)).alloc (.cells #[.int .i64 0, .string ⟨#[]⟩, .slice none 0 0, .slice none 0 0, .bool false, .int .i64 0, .slice none 0 0, .slice none 0 0] 28)).alloc (.cells #[.int .i64 2, .string ⟨#[]⟩, .slice A1 tags.length c1, .slice A2 0 c2, .bool false, .int .i64 0, .slice A3 0 c3, .slice A4 l.length c4] 28)).alloc (.cells #[] 168)).ownsRow (w.heap.size + 3) 168 3 (.slice (some ⟨w.heap.size + 3, 0, none⟩) 0 0) 0 [] := ⟨rfl, .inr ⟨w.heap.size + 3, 0, #[], rfl, Nat.le_refl _, b3, Nat.le_refl _, by decide, rfl, rfl⟩⟩
  have hnews : ∀ ad, A1 = some ad → ∀ j u, (tagC tags)[j]? = some u → ((((w.alloc (.cells #[.int .i64 2, .string ⟨#[]⟩, .slice A1 tags.length c1, .slice A2 0 c2, .bool false, .int .i64 0, .slice A3 0 c3, .slice A4 l.length c4] 28)).alloc (.cells #[.int .i64 0, .string ⟨#[]⟩, .slice none 0 0, .slice none 0 0, .bool false, .int .i64 0, .slice none 0 0, .slice none 0 0] 28)).alloc (.cells #[.int .i64 2, .string ⟨#[]⟩, .slice A1 tags.length c1, .slice A2 0 c2, .bool false, .int .i64 0, .slice A3 0 c3, .slice A4 l.length c4] 28)).alloc (.cells #[] 168)).cell? (ad.add j) = some u := fun ad hA j u hu => by
    obtain ⟨i, x, hx, hc⟩ := tagC_at tags j u hu
    obtain ⟨b, off, hA2, hb, hcl⟩ := hT.resolve_left (by rintro rfl; simp at hx)
    rw [hA] at hA2
    injection hA2 with hA2
    subst hA2
    rw [add_off]
    refine (hf4.cell (p := ⟨b, off + j, none⟩) (Nat.lt_of_lt_of_le hb hB)).trans ?_
    obtain ⟨k0, k1, k2⟩ := hcl i x hx
    rcases hc with ⟨rfl, rfl⟩ | ⟨rfl, rfl⟩ | ⟨rfl, rfl⟩
    · exact k0
    · exact k1
    · exact k2
  have h1 : ∀ u ∈ tagC tags, u.oneCell' = true := fun u hu => by
    obtain ⟨j, hj⟩ := List.mem_iff_getElem?.1 hu
    obtain ⟨i, x, -, hc⟩ := tagC_at tags j u hj
    rcases hc with ⟨-, rfl⟩ | ⟨-, rfl⟩ | ⟨-, rfl⟩ <;> rfl
  have hlt := tagC_length tags
  have H := Lib.hid h; have Ha := Lib.hid ha; have Hok := Lib.hid hok; have Hne := Lib.hid hne
  have Hf4 := Lib.hid hf4; have B0 := Lib.hid b0; have B1 := Lib.hid b1; have B2 := Lib.hid b2; have Hown := Lib.hid hown; have Hnews := Lib.hid hnews; have H1 := Lib.hid h1; have H10 := Lib.hid h10; have Hlt := Lib.hid hlt
  have Hs4 := Lib.hid hs4
  clear h ha hok hf4 b0 b1 b2 b3 hown hnews h1 hs3 hs4 hT h10 hlt hne
  go_enter Tryz.func10, Tryz.ntmps10
  go_wp2_with (at_builtin; refine wpList_append_opt rfl _ _ 22 rfl (w.heap.size + 3) 168 i0 _ 3 24 Tryz.underlying22 hi0 hz0 hz1 hz2 rfl (by decide) _ _ _ rfl Hown.out A1 tags.length c1 (tagC tags) rfl H10.out Hlt.out Hnews.out H1.out ?d3 ?d4 ?d5 ?_)
  case d3 => unfold maxLen; omega
  case d4 => omega
  case d5 => simp
  intro v3 w3 hown3 hg3 hform
  have hsz3 : w.heap.size + 4 ≤ w3.heap.size := by have := hg3.size; rw [Hs4.out] at this; exact this
  have hgr : ∀ b, b < w.heap.size + 4 → b ≠ w.heap.size + 3 → w3.heap[b]? = ((((w.alloc (.cells #[.int .i64 2, .string ⟨#[]⟩, .slice A1 tags.length c1, .slice A2 0 c2, .bool false, .int .i64 0, .slice A3 0 c3, .slice A4 l.length c4] 28)).alloc (.cells #[.int .i64 0, .string ⟨#[]⟩, .slice none 0 0, .slice none 0 0, .bool false, .int .i64 0, .slice none 0 0, .slice none 0 0] 28)).alloc (.cells #[.int .i64 2, .string ⟨#[]⟩, .slice A1 tags.length c1, .slice A2 0 c2, .bool false, .int .i64 0, .slice A3 0 c3, .slice A4 l.length c4] 28)).alloc (.cells #[] 168)).heap[b]? := fun b hb hn => hg3.block b (by rw [Hs4.out]; exact hb) (fun e => hn (by simp [Value.ownBlock] at e; omega))
  have d0 := (hgr w.heap.size (by omega) (by omega)).trans B0.out
  have d1 := (hgr (w.heap.size + 1) (by omega) (by omega)).trans B1.out
  have d2 := (hgr (w.heap.size + 2) (by omega) (by omega)).trans B2.out
  have hf3 : Fr w.heap.size w w3 := Hf4.out.grown hg3 (fun g hg => by simp [Value.ownBlock] at hg; omega)
  have hshape : ∃ TA tc, v3 = .slice TA tags.length tc ∧ (TA = none → tags.length = 0 ∧ tc = 0) ∧ (tags = [] ∨ ∃ g, TA = some ⟨g, 0, none⟩ ∧ w.heap.size + 3 ≤ g ∧ g < w3.heap.size ∧ ∀ (j : Nat) u, (tagC tags)[j]? = some u → w3.cell? ⟨g, j, none⟩ = some u) := by
    rcases row_cases hown3 with ⟨rfl, hn, hx⟩ | ⟨g, cap, rfl, g1, g2, g3, g4⟩
    · have hn0 : tags.length = 0 := by omega
      exact ⟨none, 0, by rw [hn0], fun _ => ⟨hn0, rfl⟩, .inl (List.eq_nil_of_length_eq_zero hn0)⟩
    · refine ⟨_, cap, rfl, (fun h => by cases h), .inr ⟨g, rfl, g1, g2, fun j u hu => g4 j u hu⟩⟩
  obtain ⟨TA, tc, rfl, hTA0, hTA⟩ := hshape
  have HTA := Lib.hid hTA; have HTA0 := Lib.hid hTA0
  have D0 := Lib.hid d0; have D1 := Lib.hid d1; have D2 := Lib.hid d2; have Hf3 := Lib.hid hf3
  clear hgr hown3 hg3 hform d0 d1 d2 hf3 Hf4 B0 B1 B2 Hown Hnews H1 hTA hTA0 Hs4
  have k0 : w3.cell? ⟨w.heap.size + 2, 2, none⟩ = some (.slice A1 tags.length c1) := by rw [cell_of_row _ _ _ _ _ _ D2.out]; rfl
  have k1 : w3.cell? ⟨w.heap.size + 2, 3, none⟩ = some (.slice A2 0 c2) := by rw [cell_of_row _ _ _ _ _ _ D2.out]; rfl
  have z0 := frozen_row D2.out 2; have z1 := frozen_row D2.out 3
  have x3 : w3.cell? ⟨w.heap.size, 3, none⟩ = some (.slice A2 0 c2) := by rw [cell_of_row _ _ _ _ _ _ D0.out]; rfl
  have x6 : w3.cell? ⟨w.heap.size, 6, none⟩ = some (.slice A3 0 c3) := by rw [cell_of_row _ _ _ _ _ _ D0.out]; rfl
  have k6 : w3.cell? ⟨w.heap.size + 2, 6, none⟩ = some (.slice A3 0 c3) := by rw [cell_of_row _ _ _ _ _ _ D2.out]; rfl
  have z6 := frozen_row D2.out 6
  have x7 : w3.cell? ⟨w.heap.size, 7, none⟩ = some (.slice A4 l.length c4) := by rw [cell_of_row _ _ _ _ _ _ D0.out]; rfl
  have Hot := Lib.hid (ownTypes_nil A3 c3)
  go_wp2_with fail
  refine wp_loop_rounds 1 ?_
  rw [rounds_succ]
  go_wp2_with (go_at_call 28; refine (Hot.out _).mono ?_; rintro e w' ⟨rfl, rfl⟩)
  have E2 := blk_set (blk_set (blk_set D2.out 2 (.slice TA tags.length tc)) 3 (.slice none 0 0)) 6 (.slice none 0 0)
  have E1 := blk_far (blk_far (blk_far D1.out 2 (.slice TA tags.length tc) (show w.heap.size + 1 ≠ w.heap.size + 2 by omega)) 3 (.slice none 0 0) (show w.heap.size + 1 ≠ w.heap.size + 2 by omega)) 6 (.slice none 0 0) (show w.heap.size + 1 ≠ w.heap.size + 2 by omega)
  have hF6 : Fr w.heap.size w (((w3.setCell ⟨w.heap.size + 2, 2, none⟩ (.slice TA tags.length tc)).setCell ⟨w.heap.size + 2, 3, none⟩ (.slice none 0 0)).setCell ⟨w.heap.size + 2, 6, none⟩ (.slice none 0 0)) := ((Hf3.out.setCell (p := ⟨w.heap.size + 2, 2, none⟩) (by simp) _).setCell (p := ⟨w.heap.size + 2, 3, none⟩) (by simp) _).setCell (p := ⟨w.heap.size + 2, 6, none⟩) (by simp) _
  have hfar6 : ∀ b, b ≠ w.heap.size + 2 → (((w3.setCell ⟨w.heap.size + 2, 2, none⟩ (.slice TA tags.length tc)).setCell ⟨w.heap.size + 2, 3, none⟩ (.slice none 0 0)).setCell ⟨w.heap.size + 2, 6, none⟩ (.slice none 0 0)).heap[b]? = w3.heap[b]? := fun b hb =>
    (Below.heap_setCell _ _ _ _ (show b ≠ w.heap.size + 2 from hb)).trans ((Below.heap_setCell _ _ _ _ (show b ≠ w.heap.size + 2 from hb)).trans (Below.heap_setCell _ _ _ _ (show b ≠ w.heap.size + 2 from hb)))
  have hs6 : (((w3.setCell ⟨w.heap.size + 2, 2, none⟩ (.slice TA tags.length tc)).setCell ⟨w.heap.size + 2, 3, none⟩ (.slice none 0 0)).setCell ⟨w.heap.size + 2, 6, none⟩ (.slice none 0 0)).heap.size = w3.heap.size := by simp [World.setCell]
  have x7' := (World.cell?_of_block (a := ⟨w.heap.size, 7, none⟩) (hfar6 w.heap.size (by omega))).trans x7
  generalize ((w3.setCell ⟨w.heap.size + 2, 2, none⟩ (.slice TA tags.length tc)).setCell ⟨w.heap.size + 2, 3, none⟩ (.slice none 0 0)).setCell ⟨w.heap.size + 2, 6, none⟩ (.slice none 0 0) = W6 at *
  have E1' := Lib.hid E1; have E2' := Lib.hid E2; have Hfar6 := Lib.hid hfar6; have HF6 := Lib.hid hF6; have Hs6 := Lib.hid hs6
  clear E1 E2 hfar6 hF6 hs6 k0 k1 k6 z0 z1 z6 x3 x6 x7 D0 D1 D2 Hf3
  go_wp2_with fail
  refine (ownLimits_any (B := B) l A4 c4 W6 (H.out.keep (HF6.out.2.mono hB)) (Nat.le_trans hB HF6.out.2.size) (by omega) Ha.out).mono ?_
  rintro e w7 ⟨⟨v7, rfl, hrow⟩, hf7⟩
  have h62 : w.heap.size + 2 < W6.heap.size := by rw [Hs6.out]; omega
  have h61 : w.heap.size + 1 < W6.heap.size := by rw [Hs6.out]; omega
  have h64 : w.heap.size + 4 ≤ W6.heap.size := by rw [Hs6.out]; exact hsz3
  have G2 := (hf7.2.block _ h62).trans E2'.out
  have G1 := (hf7.2.block _ h61).trans E1'.out
  have hF7 : Fr w.heap.size w w7 := HF6.out.trans hf7
  have hs7 : W6.heap.size ≤ w7.heap.size := hf7.2.size
  obtain ⟨A7, c7, rfl, -⟩ := hrow.lim Hok.out
  have Hrow := Lib.hid hrow
  have k0 : w7.cell? ⟨w.heap.size + 2, 0, none⟩ = some (.int .i64 2) := by rw [cell_of_row _ _ _ _ _ _ G2]; rfl
  have k1 : w7.cell? ⟨w.heap.size + 2, 1, none⟩ = some (.string ⟨#[]⟩) := by rw [cell_of_row _ _ _ _ _ _ G2]; rfl
  have k2 : w7.cell? ⟨w.heap.size + 2, 2, none⟩ = some (.slice TA tags.length tc) := by rw [cell_of_row _ _ _ _ _ _ G2]; rfl
  have k3 : w7.cell? ⟨w.heap.size + 2, 3, none⟩ = some (.slice none 0 0) := by rw [cell_of_row _ _ _ _ _ _ G2]; rfl
  have k4 : w7.cell? ⟨w.heap.size + 2, 4, none⟩ = some (.bool false) := by rw [cell_of_row _ _ _ _ _ _ G2]; rfl
  have k5 : w7.cell? ⟨w.heap.size + 2, 5, none⟩ = some (.int .i64 0) := by rw [cell_of_row _ _ _ _ _ _ G2]; rfl
  have k6 : w7.cell? ⟨w.heap.size + 2, 6, none⟩ = some (.slice none 0 0) := by rw [cell_of_row _ _ _ _ _ _ G2]; rfl
  have k7 : w7.cell? ⟨w.heap.size + 2, 7, none⟩ = some (.slice A4 l.length c4) := by rw [cell_of_row _ _ _ _ _ _ G2]; rfl
  have z7 := frozen_row G2 7
  have j0 : w7.cell? ⟨w.heap.size + 1, 0, none⟩ = some (.int .i64 0) := by rw [cell_of_row _ _ _ _ _ _ G1]; rfl
  have j1 : w7.cell? ⟨w.heap.size + 1, 1, none⟩ = some (.string ⟨#[]⟩) := by rw [cell_of_row _ _ _ _ _ _ G1]; rfl
  have j2 : w7.cell? ⟨w.heap.size + 1, 2, none⟩ = some (.slice none 0 0) := by rw [cell_of_row _ _ _ _ _ _ G1]; rfl
  have j3 : w7.cell? ⟨w.heap.size + 1, 3, none⟩ = some (.slice none 0 0) := by rw [cell_of_row _ _ _ _ _ _ G1]; rfl
  have j4 : w7.cell? ⟨w.heap.size + 1, 4, none⟩ = some (.bool false) := by rw [cell_of_row _ _ _ _ _ _ G1]; rfl
  have j5 : w7.cell? ⟨w.heap.size + 1, 5, none⟩ = some (.int .i64 0) := by rw [cell_of_row _ _ _ _ _ _ G1]; rfl
  have j6 : w7.cell? ⟨w.heap.size + 1, 6, none⟩ = some (.slice none 0 0) := by rw [cell_of_row _ _ _ _ _ _ G1]; rfl
  have j7 : w7.cell? ⟨w.heap.size + 1, 7, none⟩ = some (.slice none 0 0) := by rw [cell_of_row _ _ _ _ _ _ G1]; rfl
  have y0 := frozen_row G1 0; have y1 := frozen_row G1 1; have y2 := frozen_row G1 2; have y3 := frozen_row G1 3; have y4 := frozen_row G1 4; have y5 := frozen_row G1 5; have y6 := frozen_row G1 6; have y7 := frozen_row G1 7
  have G8 := blk_far G1 7 (.slice A7 l.length c7) (show w.heap.size + 1 ≠ w.heap.size + 2 by omega)
  have HG8 := Lib.hid G8; have HF7 := Lib.hid hF7
  have Hf7 := Lib.hid hf7
  clear G1 G2 E1' E2' HF6 hF7 hf7 hrow G8 x7'
  go_wp2_with fail
  refine bodyPost_ret (typ_res rfl rfl (blk_set (blk_set (blk_set (blk_set (blk_set (blk_set (blk_set (blk_set HG8.out 0 _) 1 _) 2 _) 3 _) 4 _) 5 _) 6 _) 7 _)) rfl ?_
  have hst : ∀ b, w.heap.size + 3 ≤ b → (((((((((w7.setCell ⟨w.heap.size + 2, 7, none⟩ (.slice A7 l.length c7)).setCell ⟨w.heap.size + 1, 0, none⟩ (.int .i64 2)).setCell ⟨w.heap.size + 1, 1, none⟩ (.string ⟨#[]⟩)).setCell ⟨w.heap.size + 1, 2, none⟩ (.slice TA tags.length tc)).setCell ⟨w.heap.size + 1, 3, none⟩ (.slice none 0 0)).setCell ⟨w.heap.size + 1, 4, none⟩ (.bool false)).setCell ⟨w.heap.size + 1, 5, none⟩ (.int .i64 0)).setCell ⟨w.heap.size + 1, 6, none⟩ (.slice none 0 0)).setCell ⟨w.heap.size + 1, 7, none⟩ (.slice A7 l.length c7)).heap[b]? = w7.heap[b]? := fun b hb => by
    have n1 : b ≠ w.heap.size + 1 := by omega
    have n2 : b ≠ w.heap.size + 2 := by omega
    rw [Below.heap_setCell _ _ _ _ n1, Below.heap_setCell _ _ _ _ n1, Below.heap_setCell _ _ _ _ n1, Below.heap_setCell _ _ _ _ n1, Below.heap_setCell _ _ _ _ n1, Below.heap_setCell _ _ _ _ n1, Below.heap_setCell _ _ _ _ n1, Below.heap_setCell _ _ _ _ n1, Below.heap_setCell _ _ _ _ n2]
  have hs9 : (((((((((w7.setCell ⟨w.heap.size + 2, 7, none⟩ (.slice A7 l.length c7)).setCell ⟨w.heap.size + 1, 0, none⟩ (.int .i64 2)).setCell ⟨w.heap.size + 1, 1, none⟩ (.string ⟨#[]⟩)).setCell ⟨w.heap.size + 1, 2, none⟩ (.slice TA tags.length tc)).setCell ⟨w.heap.size + 1, 3, none⟩ (.slice none 0 0)).setCell ⟨w.heap.size + 1, 4, none⟩ (.bool false)).setCell ⟨w.heap.size + 1, 5, none⟩ (.int .i64 0)).setCell ⟨w.heap.size + 1, 6, none⟩ (.slice none 0 0)).setCell ⟨w.heap.size + 1, 7, none⟩ (.slice A7 l.length c7)).heap.size = w7.heap.size := by simp [World.setCell]
  have hF9 : Fr w.heap.size w (((((((((w7.setCell ⟨w.heap.size + 2, 7, none⟩ (.slice A7 l.length c7)).setCell ⟨w.heap.size + 1, 0, none⟩ (.int .i64 2)).setCell ⟨w.heap.size + 1, 1, none⟩ (.string ⟨#[]⟩)).setCell ⟨w.heap.size + 1, 2, none⟩ (.slice TA tags.length tc)).setCell ⟨w.heap.size + 1, 3, none⟩ (.slice none 0 0)).setCell ⟨w.heap.size + 1, 4, none⟩ (.bool false)).setCell ⟨w.heap.size + 1, 5, none⟩ (.int .i64 0)).setCell ⟨w.heap.size + 1, 6, none⟩ (.slice none 0 0)).setCell ⟨w.heap.size + 1, 7, none⟩ (.slice A7 l.length c7)) := ((((((((HF7.out.setCell (p := ⟨w.heap.size + 2, 7, none⟩) (by simp) _).setCell (p := ⟨w.heap.size + 1, 0, none⟩) (by simp) _).setCell (p := ⟨w.heap.size + 1, 1, none⟩) (by simp) _).setCell (p := ⟨w.heap.size + 1, 2, none⟩) (by simp) _).setCell (p := ⟨w.heap.size + 1, 3, none⟩) (by simp) _).setCell (p := ⟨w.heap.size + 1, 4, none⟩) (by simp) _).setCell (p := ⟨w.heap.size + 1, 5, none⟩) (by simp) _).setCell (p := ⟨w.heap.size + 1, 6, none⟩) (by simp) _).setCell (p := ⟨w.heap.size + 1, 7, none⟩) (by simp) _
  generalize (((((((((w7.setCell ⟨w.heap.size + 2, 7, none⟩ (.slice A7 l.length c7)).setCell ⟨w.heap.size + 1, 0, none⟩ (.int .i64 2)).setCell ⟨w.heap.size + 1, 1, none⟩ (.string ⟨#[]⟩)).setCell ⟨w.heap.size + 1, 2, none⟩ (.slice TA tags.length tc)).setCell ⟨w.heap.size + 1, 3, none⟩ (.slice none 0 0)).setCell ⟨w.heap.size + 1, 4, none⟩ (.bool false)).setCell ⟨w.heap.size + 1, 5, none⟩ (.int .i64 0)).setCell ⟨w.heap.size + 1, 6, none⟩ (.slice none 0 0)).setCell ⟨w.heap.size + 1, 7, none⟩ (.slice A7 l.length c7)) = W at *
  obtain ⟨A9, c9, e9, -, hlim, hg9⟩ := (Hrow.out.keep (w' := W) (fun b hb _ => hst b (by omega)) (by omega)).lim Hok.out
  obtain ⟨g9, rfl, -⟩ := hg9 Hne.out
  injection e9 with e1 e2 e3
  subst e1; subst e3
  refine ⟨⟨TA, tc, g9, 0, c7, rfl, HTA0.out, ?_, hlim⟩, hF9⟩
  rcases HTA.out with h | ⟨g, rfl, g1, g2, g3⟩
  · exact .inl h
  · refine .inr ⟨g, 0, rfl, by have := Hs6.out; omega, fun i x hx => ?_⟩
    have hb : W.heap[g]? = w3.heap[g]? := (hst g g1).trans ((Hf7.out.2.block g (by rw [Hs6.out]; exact g2)).trans (Hfar6.out g (by omega)))
    have hc : ∀ j, W.cell? ⟨g, j, none⟩ = w3.cell? ⟨g, j, none⟩ := fun j => World.cell?_of_block (a := ⟨g, j, none⟩) hb
    obtain ⟨t0, t1, t2⟩ := tagC_get tags i x hx
    rw [Nat.zero_add, hc, hc, hc]
    exact ⟨g3 _ _ t0, g3 _ _ t1, g3 _ _ t2⟩
end Go.Proofs.YtgdedcdjfljcnaaGreatDoor
