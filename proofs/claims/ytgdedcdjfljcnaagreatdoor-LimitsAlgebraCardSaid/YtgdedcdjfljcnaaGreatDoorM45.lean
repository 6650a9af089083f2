/- Two constraints below a node: Over. -/
import Derived.Test.YtgdedcdjfljcnaaGreatDoorM44
namespace Go.Proofs.YtgdedcdjfljcnaaGreatDoor
open Go.RowKit

theorem shiftL_length (d : Int) (l : List LN) : (shiftL d l).length = l.length := List.length_map _
theorem flat5_length {css : List (List Value)} (h5 : ∀ c ∈ css, c.length = 5) : css.flatten.length = css.length * 5 := by
  induction css with
  | nil => rfl
  | cons d css ih =>
    rw [List.flatten_cons, List.length_append, h5 d (by simp), ih (fun c hc => h5 c (by simp [hc])), List.length_cons]; omega
/-- Nodes whose cells stand in a list. -/
def NodesC (S : Nat → Prop) (w : World) (xs : List LN) (css : List (List Value)) : Prop := css.length = xs.length ∧ ∀ (i : Nat) (y : LN) (c : List Value), xs[i]? = some y → css[i]? = some c → NodeC S w y c
theorem NodesC.keep {S T : Nat → Prop} {w w' : World} {xs : List LN} {css : List (List Value)} (h : NodesC S w xs css) (hb : Stay S w w') (hT : ∀ b, S b → T b) : NodesC T w' xs css := ⟨h.1, fun i y c hy hc => (h.2 i y c hy hc).keep hb hT⟩
theorem NodesC.append {S : Nat → Prop} {w : World} {xs ys : List LN} {us vs : List (List Value)} (h : NodesC S w xs us) (h2 : NodesC S w ys vs) : NodesC S w (xs ++ ys) (us ++ vs) := by
  refine ⟨by rw [List.length_append, List.length_append, h.1, h2.1], fun i y c hy hc => ?_⟩
  by_cases hi : i < xs.length
  · rw [List.getElem?_append_left hi] at hy
    rw [List.getElem?_append_left (by rw [h.1]; exact hi)] at hc
    exact h.2 i y c hy hc
  · rw [List.getElem?_append_right (by omega)] at hy
    rw [List.getElem?_append_right (by rw [h.1]; omega), h.1] at hc
    exact h2.2 _ y c hy hc
theorem NodesC.five {S : Nat → Prop} {w : World} {xs : List LN} {css : List (List Value)} (h : NodesC S w xs css) : ∀ c ∈ css, c.length = 5 := fun c hc => by
  obtain ⟨i, hi⟩ := List.mem_iff_getElem?.1 hc
  have hil := (List.getElem?_eq_some_iff.1 hi).1
  obtain ⟨y, hy⟩ : ∃ y, xs[i]? = some y := ⟨_, List.getElem?_eq_getElem (by rw [← h.1]; exact hil)⟩
  exact (h.2 i y c hy hi).five
theorem NodesC.one {S : Nat → Prop} {w : World} {xs : List LN} {css : List (List Value)} (h : NodesC S w xs css) : ∀ u ∈ css.flatten, u.oneCell' = true := fun u hu => by
  obtain ⟨c, hc, hu⟩ := List.mem_flatten.1 hu
  obtain ⟨i, hi⟩ := List.mem_iff_getElem?.1 hc
  have hil := (List.getElem?_eq_some_iff.1 hi).1
  obtain ⟨y, hy⟩ : ∃ y, xs[i]? = some y := ⟨_, List.getElem?_eq_getElem (by rw [← h.1]; exact hil)⟩
  obtain ⟨A, ca, rfl, -⟩ := h.2 i y c hy hi
  exact node_one y A ca u hu
/-- A row of nodes, read. -/
theorem NodesC.lim {w : World} {xs : List LN} {css : List (List Value)} (h : NodesC (fun b => b < w.heap.size) w xs css) (hok : ∀ x ∈ xs, NodeOk x) {g : Nat} (hg : g < w.heap.size) (hc : ∀ j u, css.flatten[j]? = some u → w.cell? ⟨g, j, none⟩ = some u) : LimAt w.heap.size w (some ⟨g, 0, none⟩) xs := by
  have key : ∀ i, i < xs.length → ∃ p : Option Addr × Nat, ∀ y, xs[i]? = some y → NodeRep w.heap.size w y p.1 p.2 ∧ ∀ j u, (y.cells p.1 p.2)[j]? = some u → w.cell? ⟨g, 0 + i * 5 + j, none⟩ = some u := by
    intro i hi
    obtain ⟨y, hy⟩ : ∃ y, xs[i]? = some y := ⟨_, List.getElem?_eq_getElem hi⟩
    obtain ⟨c, hci⟩ : ∃ c, css[i]? = some c := ⟨_, List.getElem?_eq_getElem (by rw [h.1]; exact hi)⟩
    obtain ⟨A, ca, rfl, ha, hl, h0⟩ := h.2 i y c hy hci
    refine ⟨(A, ca), fun y' hy' => ?_⟩
    rw [hy] at hy'
    injection hy' with hy'
    subst hy'
    obtain ⟨o1, o2, o3, o4⟩ := hok y (List.mem_of_getElem? hy)
    refine ⟨⟨ha, hl, h0, o1, o2, o3, o4⟩, fun j u hu => ?_⟩
    rw [Nat.zero_add]
    exact hc _ _ (flat5_at h.five hci hu)
  obtain ⟨ps, hps, hpp⟩ := list_of_all xs.length key
  refine .inr ⟨g, 0, fun i => (ps[i]?).getD (none, 0), rfl, hg, fun i x hx => ?_, fun i x hx => ?_⟩
  · have hi := (List.getElem?_eq_some_iff.1 hx).1
    obtain ⟨p, hp⟩ : ∃ p, ps[i]? = some p := ⟨_, List.getElem?_eq_getElem (by omega)⟩
    simp only [hp, Option.getD_some]
    exact (hpp i p hp x hx).1
  · have hi := (List.getElem?_eq_some_iff.1 hx).1
    obtain ⟨p, hp⟩ : ∃ p, ps[i]? = some p := ⟨_, List.getElem?_eq_getElem (by omega)⟩
    simp only [hp, Option.getD_some]
    exact (hpp i p hp x hx).2
/-- What shifted hands back: nodes in a new row. -/
theorem RowN.parts {w0 w : World} {v : Value} {xs : List LN} (h : RowN w0 w v xs) (hne : xs ≠ []) : ∃ g cap css, v = .slice (some ⟨g, 0, none⟩) xs.length cap ∧ w0.heap.size ≤ g ∧ g < w.heap.size ∧ NodesC (fun b => w0.heap.size ≤ b ∧ b < w.heap.size) w xs css ∧ css.flatten.length = xs.length * 5 ∧ ∀ j u, css.flatten[j]? = some u → w.cell? ⟨g, j, none⟩ = some u := by
  obtain ⟨css, hc, hown, hr⟩ := h
  rcases row_cases hown with ⟨-, hn, -⟩ | ⟨g, cap, rfl, g1, g2, g3, g4⟩
  · exact absurd (List.eq_nil_of_length_eq_zero hn) hne
  · exact ⟨g, cap, css, rfl, g1, g2, ⟨hc, fun i y c hy hc => (hr i y c hy hc).keep (fun _ _ => rfl) (fun b hb => hb.1)⟩, hown.1, g4⟩
theorem shift_ok {l : List LN} {d : Int} (h : ∀ x ∈ l, NodeOk x) : ∀ x ∈ shiftL d l, NodeOk x := fun x hx => by
  unfold shiftL at hx
  obtain ⟨y, hy, rfl⟩ := List.mem_map.1 hx
  exact h y hy
/-- Nodes in memory of a call's own: whatever becomes of what lay before the call. -/
def LimNew (w w' : World) (A : Option Addr) (l : List LN) : Prop := ∀ w'', Stay (fun b => w.heap.size ≤ b ∧ b < w'.heap.size) w' w'' → w'.heap.size ≤ w''.heap.size → LimAt w''.heap.size w'' A l
set_option maxRecDepth 100000 in
set_option maxHeartbeats 4000000 in
theorem over_two {B : Nat} (kind : Int) (xs ys : List LN) (A1 A2 : Option Addr) (c1 c2 g gc : Nat) (w : World) (hx : LimAt B w A1 xs) (hy : LimAt B w A2 ys) (hB : B ≤ w.heap.size) (hg0 : w.cell? ⟨g, 0, none⟩ = some (.slice A1 xs.length c1)) (hg1 : w.cell? ⟨g, 1, none⟩ = some (.slice A2 ys.length c2)) (hxn : xs ≠ []) (hyn : ys ≠ []) (hxl : xs.length ≤ 100) (hyl : ys.length ≤ 100)
    (hxa : ∀ x ∈ xs, x.args.length ≤ 1000) (hya : ∀ x ∈ ys, x.args.length ≤ 1000) (hxv : ∀ x ∈ xs, ∀ a ∈ x.args, -1000000 ≤ a ∧ a ≤ 1000000) (hyv : ∀ x ∈ ys, ∀ a ∈ x.args, -1000000 ≤ a ∧ a ≤ 1000000) (hxo : ∀ x ∈ xs, NodeOk x) (hyo : ∀ x ∈ ys, NodeOk x) (hk : InI kind) :
    Calls Tryz.prog 14 #[.int .i64 kind, .slice (some ⟨g, 0, none⟩) 2 gc] w fun e w' => (∃ b c, e = .returned (.slice (some ⟨b, 0, none⟩) (overL kind xs ys).length c) ∧ LimNew w w' (some ⟨b, 0, none⟩) (overL kind xs ys)) ∧ Fr w.heap.size w w' := by
  obtain ⟨i0, hi0, hz0, hz1, hz2⟩ := info_of lim_info
  obtain ⟨j0, hj0, hy0, hy1, hy2⟩ := info_of int_info
  have hf1 := (Fr.self w).alloc (.cells #[.int .i64 kind, .int .i64 0, .int .i64 0, .string ⟨#[]⟩, .slice none 0 0] 66)
  have hb1 := heap_alloc_new w (.cells #[.int .i64 kind, .int .i64 0, .int .i64 0, .string ⟨#[]⟩, .slice none 0 0] 66)
  have hs1 : (w.alloc (.cells #[.int .i64 kind, .int .i64 0, .int .i64 0, .string ⟨#[]⟩, .slice none 0 0] 66)).heap.size = w.heap.size + 1 := by simp
  have hgw : g < w.heap.size := cell_block hg0
  have hxp : 0 < xs.length := List.length_pos_iff.2 hxn
  have hyp : 0 < ys.length := List.length_pos_iff.2 hyn
  have Hx := Lib.hid hx; have Hy := Lib.hid hy; have Hg1 := Lib.hid hg1; have Hxo := Lib.hid hxo; have Hyo := Lib.hid hyo; have Hyv := Lib.hid hyv; have Hya := Lib.hid hya
  have Hf1 := Lib.hid hf1; have Hb1 := Lib.hid hb1
  have Hs := Lib.hid (shifted_any (B := B) xs 0 A1 c1 (w.alloc (.cells #[.int .i64 kind, .int .i64 0, .int .i64 0, .string ⟨#[]⟩, .slice none 0 0] 66)) (hx.keep (hf1.2.mono hB)) (Nat.le_trans hB hf1.2.size) (by omega) hxa hxv (by omega))
  clear hx hy hxa hxv hya hyv hxo hyo hf1 hb1
  go_enter Tryz.func14, Tryz.ntmps14
  go_wp2_with fail
  refine wp_loop_rounds 3 ?_
  rw [rounds_succ]
  go_wp2_with fail
  refine (Hs.out).mono ?_
  rintro e w2 ⟨⟨v1, rfl, hr1⟩, hf2⟩
  obtain ⟨q1, cap1, css1, rfl, a1, a2, hN1, hl1, hc1⟩ := hr1.parts (by intro h; have := congrArg List.length h; rw [shiftL_length] at this; exact hxn (List.eq_nil_of_length_eq_zero this))
  rw [shiftL_length] at hl1 ⊢
  rw [hs1] at a1
  have hb2 := (hf2.2.block w.heap.size (by rw [hs1]; omega)).trans Hb1.out
  have Hone := Lib.hid hN1.one
  have HN1 := Lib.hid hN1; have Hl1 := Lib.hid hl1; have Hc1 := Lib.hid hc1; have Hb2 := Lib.hid hb2
  have Hf2 := Lib.hid (Hf1.out.trans hf2)
  have hs2 : w.heap.size + 1 ≤ w2.heap.size := by have := hf2.2.size; rw [hs1] at this; exact this
  clear hr1 hN1 hl1 hc1 hb2 hf2 Hb1 hg0
  go_wp2_with (at_builtin; refine wpList_append_own_at _ rfl _ _ 26 rfl w2.heap.size 66 i0 _ 5 64 Tryz.underlying26 hi0 hz0 hz1 hz2 rfl (by decide) _ _ _ rfl (World.ownsRow_nil w2 _ _ _) ⟨q1, 0, none⟩ xs.length cap1 css1.flatten rfl Hl1.out ?d1 ?d2 ?d3 ?d4 ?d5 ?_)
  case d1 => exact fun j u hu => by rw [add_off, Nat.zero_add]; exact Hc1.out j u hu
  case d2 => exact Hone.out
  case d3 => unfold maxLen; omega
  case d4 => omega
  case d5 => omega
  intro v3 w3 hown3 hg3 _ hat3
  rcases row_cases hown3 with ⟨-, hn, -⟩ | ⟨g3, cap3, rfl, l1, l2, l3, hc3⟩
  · omega
  have hst3 : ∀ b, b < w2.heap.size → w3.heap[b]? = w2.heap[b]? := fun b hb => hg3.block b hb (by simp [Value.ownBlock])
  have hb3 := (hst3 w.heap.size (by omega)).trans Hb2.out
  have hs3 : w2.heap.size ≤ w3.heap.size := hg3.size
  have hf3 : Fr w.heap.size w w3 := Hf2.out.grown hg3 (fun g hg => by simp [Value.ownBlock] at hg)
  have n1 := HN1.out.keep (T := fun b => w.heap.size + 1 ≤ b ∧ b < w2.heap.size) (fun b hb => hst3 b hb.2) (fun b hb => ⟨by have := hb.1; rwa [hs1] at this, hb.2⟩)
  have k4 : w3.cell? ⟨w.heap.size, 4, none⟩ = some (.slice none 0 0) := by rw [cell_of_row _ _ _ _ _ _ hb3]; rfl
  have hnews : ∀ j u, (intCells [(xs.length : Int) - 1])[j]? = some u → (w3.alloc (.cells #[.int .i64 ((xs.length : Int) - 1)] 3)).cell? (({ block := w3.heap.size, off := 0 } : Addr).add j) = some u := cells_new w3 _ _
  have Hnews := Lib.hid hnews; have Hone2 := Lib.hid (intCells_one [(xs.length : Int) - 1])
  have N1 := Lib.hid n1; have Hown3 := Lib.hid hown3; have Hb3 := Lib.hid hb3; have Hf3 := Lib.hid hf3
  clear hst3 hb3 hf3 n1 hown3 hg3 hat3 hc3 hnews HN1 Hc1 Hl1 Hone Hb2 Hf2
  go_wp2_with (at_builtin; refine wpList_append_own_at _ rfl _ _ 64 rfl w3.heap.size 3 j0 _ 1 8 Tryz.underlying64 hj0 hy0 hy1 hy2 rfl (by decide) _ _ _ rfl (World.ownsRow_nil _ _ _ _) ⟨w3.heap.size, 0, none⟩ 1 1 (intCells [(xs.length : Int) - 1]) rfl rfl ?d1 ?d2 ?d3 ?d4 ?d5 ?_)
  case d1 => exact Hnews.out
  case d2 => exact Hone2.out
  case d3 => unfold maxLen; omega
  case d4 => omega
  case d5 => simp
  intro v5 w5 hown5 hg5 _ hat5
  rcases row_cases hown5 with ⟨-, hn, -⟩ | ⟨g5, cap5, rfl, m1, m2, m3, hc5⟩
  · omega
  have hst5 : ∀ b, b < w3.heap.size → w5.heap[b]? = w3.heap[b]? := fun b hb => (hg5.block b (by simp; omega) (by simp [Value.ownBlock])).trans (Below.heap_alloc _ _ _ hb)
  have hs5 : w3.heap.size + 1 ≤ w5.heap.size := by have := hg5.size; simpa using this
  have hb5 := (hst5 w.heap.size (by omega)).trans Hb3.out
  have hf5 : Fr w.heap.size w w5 := (Hf3.out.alloc _).grown hg5 (fun g hg => by simp [Value.ownBlock] at hg)
  have k4 : w5.cell? ⟨w.heap.size, 4, none⟩ = some (.slice none 0 0) := by rw [cell_of_row _ _ _ _ _ _ hb5]; rfl
  have z4 := frozen_row hb5 4
  have hb6 := blk_set hb5 4 (.slice (some ⟨g5, 0, none⟩) 1 cap5)
  have hf6 : Fr w.heap.size w (w5.setCell ⟨w.heap.size, 4, none⟩ (.slice (some ⟨g5, 0, none⟩) 1 cap5)) := hf5.setCell (p := ⟨w.heap.size, 4, none⟩) (Nat.le_refl _) _
  have hst6 : ∀ b, b ≠ w.heap.size → (w5.setCell ⟨w.heap.size, 4, none⟩ (.slice (some ⟨g5, 0, none⟩) 1 cap5)).heap[b]? = w5.heap[b]? := fun b hb => Below.heap_setCell _ _ _ _ hb
  have hs6 : (w5.setCell ⟨w.heap.size, 4, none⟩ (.slice (some ⟨g5, 0, none⟩) 1 cap5)).heap.size = w5.heap.size := by simp [World.setCell]
  have hg16 := (hf6.cell (p := ⟨g, 1, none⟩) hgw).trans Hg1.out
  have n6 := N1.out.keep (fun b hb => (hst6 b (by omega)).trans (hst5 b (by omega))) (fun b hb => hb)
  have hown36 := own_block Hown3.out (w' := w5.setCell ⟨w.heap.size, 4, none⟩ (.slice (some ⟨g5, 0, none⟩) 1 cap5)) (fun b hb => by simp [Value.ownBlock] at hb; subst hb; exact (hst6 _ (by omega)).trans (hst5 _ l2))
  have hown56 := own_block hown5 (w' := w5.setCell ⟨w.heap.size, 4, none⟩ (.slice (some ⟨g5, 0, none⟩) 1 cap5)) (fun b hb => by simp [Value.ownBlock] at hb; subst hb; exact hst6 _ (by omega))
  have N6 := Lib.hid n6; have Hown36 := Lib.hid hown36; have Hown56 := Lib.hid hown56; have Hb6 := Lib.hid hb6; have Hf6 := Lib.hid hf6; have Hs6 := Lib.hid hs6
  clear hst5 hb5 hf5 n6 hown36 hown56 hb6 hf6 hs6 hst6 hown5 hg5 hat5 hc5 Hnews Hone2 N1 Hown3 Hb3 Hf3
  go_wp2_with fail
  rw [rounds_succ]
  generalize w5.setCell ⟨w.heap.size, 4, none⟩ (.slice (some ⟨g5, 0, none⟩) 1 cap5) = w6 at *
  go_wp2_with fail
  have hyl2 : (shiftL (xs.length : Int) ys) ≠ [] := fun h => by have := congrArg List.length h; rw [shiftL_length] at this; exact hyn (List.eq_nil_of_length_eq_zero this)
  refine (shifted_any (B := B) ys xs.length A2 c2 w6 (Hy.out.keep (Hf6.out.2.mono hB)) (Nat.le_trans hB Hf6.out.2.size) (by omega) Hya.out Hyv.out (by omega)).mono ?_
  rintro e w7 ⟨⟨v7, rfl, hr7⟩, hf7⟩
  obtain ⟨q7, cap7, css2, rfl, a7, b7, hN7, hl7, hc7⟩ := hr7.parts hyl2
  rw [shiftL_length] at hl7 ⊢
  have hs67 : w6.heap.size ≤ w7.heap.size := hf7.2.size
  have h56 := Hs6.out
  have hb7 := (hf7.2.block w.heap.size (by omega)).trans Hb6.out
  have n71 := N6.out.keep (fun b hb => hf7.2.block b (by omega)) (fun b hb => hb)
  have hown37 := own_block Hown36.out (w' := w7) (fun b hb => by simp [Value.ownBlock] at hb; subst hb; exact hf7.2.block _ (by omega))
  have hown57 := own_block Hown56.out (w' := w7) (fun b hb => by simp [Value.ownBlock] at hb; subst hb; exact hf7.2.block _ (by omega))
  have hone := hN7.one
  have Hf7 := Lib.hid (Hf6.out.trans hf7)
  have Hb7 := Lib.hid hb7; have N71 := Lib.hid n71; have Hown37 := Lib.hid hown37; have Hown57 := Lib.hid hown57; have HN7 := Lib.hid hN7; have Hl7 := Lib.hid hl7; have Hc7 := Lib.hid hc7; have Hone := Lib.hid hone
  clear hr7 hf7 hb7 n71 hown37 hown57 hone hN7 hl7 hc7 N6 Hown36 Hown56 Hb6 Hf6 hg16
  go_wp2_with (at_builtin; refine wpList_append_own_at _ rfl _ _ 26 rfl w2.heap.size 66 i0 _ 5 64 Tryz.underlying26 hi0 hz0 hz1 hz2 rfl (by decide) _ _ _ rfl Hown37.out ⟨q7, 0, none⟩ ys.length cap7 css2.flatten rfl Hl7.out ?d1 ?d2 ?d3 ?d4 ?d5 ?_)
  case d1 => exact fun j u hu => by rw [add_off, Nat.zero_add]; exact Hc7.out j u hu
  case d2 => exact Hone.out
  case d3 => unfold maxLen; omega
  case d4 => omega
  case d5 => omega
  intro v8 w8 hown8 hg8 _ hat8
  rcases row_cases hown8 with ⟨-, hn, -⟩ | ⟨g8, cap8, rfl, r1, r2, r3, hc8⟩
  · omega
  have hg8e : g8 = g3 ∨ g8 = w7.heap.size := by
    rcases hat8 with h | h
    · exact .inl (by simpa [Value.ownBlock] using h)
    · exact .inr (by simpa [Value.ownBlock] using h)
  have hst8 : ∀ b, b < w7.heap.size → b ≠ g3 → w8.heap[b]? = w7.heap[b]? := fun b hb hn => hg8.block b hb (by simpa [Value.ownBlock] using hn)
  have hs8 : w7.heap.size ≤ w8.heap.size := hg8.size
  have hb8 := (hst8 w.heap.size (by omega) (by omega)).trans Hb7.out
  have hf8 : Fr w.heap.size w w8 := Hf7.out.grown hg8 (fun g hg => by simp [Value.ownBlock] at hg; omega)
  have n81 := N71.out.keep (fun b hb => hst8 b (by omega) (by omega)) (fun b hb => hb)
  have n82 := HN7.out.keep (fun b hb => hst8 b hb.2 (by have := hb.1; omega)) (fun b hb => hb)
  have hown58 := own_block Hown57.out (w' := w8) (fun b hb => by simp [Value.ownBlock] at hb; subst hb; exact hst8 _ (by omega) (by omega))
  have k4 : w8.cell? ⟨w.heap.size, 4, none⟩ = some (.slice (some ⟨g5, 0, none⟩) 1 cap5) := by rw [cell_of_row _ _ _ _ _ _ hb8]; rfl
  have hnews : ∀ j u, (intCells [(xs.length : Int) + ys.length - 1])[j]? = some u → (w8.alloc (.cells #[.int .i64 ((xs.length : Int) + ys.length - 1)] 3)).cell? (({ block := w8.heap.size, off := 0 } : Addr).add j) = some u := cells_new w8 _ _
  have Hnews := Lib.hid hnews; have Hone2 := Lib.hid (intCells_one [(xs.length : Int) + ys.length - 1])
  have Hown8 := Lib.hid hown8; have Hb8 := Lib.hid hb8; have Hf8 := Lib.hid hf8; have N81 := Lib.hid n81; have N82 := Lib.hid n82; have Hown58 := Lib.hid hown58
  clear hown8 hg8 hat8 hst8 hb8 hf8 n81 n82 hown58 hc8 hnews Hb7 N71 Hown37 Hown57 HN7 Hl7 Hc7 Hone Hf7
  go_wp2_with (at_builtin; refine wpList_append_own_at _ rfl _ _ 64 rfl w3.heap.size 3 j0 _ 1 8 Tryz.underlying64 hj0 hy0 hy1 hy2 rfl (by decide) _ _ _ rfl (Hown58.out.alloc _) ⟨w8.heap.size, 0, none⟩ 1 1 (intCells [(xs.length : Int) + ys.length - 1]) rfl rfl ?d1 ?d2 ?d3 ?d4 ?d5 ?_)
  case d1 => exact Hnews.out
  case d2 => exact Hone2.out
  case d3 => unfold maxLen; omega
  case d4 => omega
  case d5 => simp; omega
  intro v9 w9 hown9 hg9 _ hat9
  rcases row_cases hown9 with ⟨-, hn, -⟩ | ⟨g9, cap9, rfl, s1, s2, s3, hc9⟩
  · omega
  have hg9e : g9 = g5 ∨ g9 = w8.heap.size + 1 := by
    rcases hat9 with h | h
    · exact .inl (by simpa [Value.ownBlock] using h)
    · exact .inr (by simpa [Value.ownBlock] using h)
  have hst9 : ∀ b, b < w8.heap.size → b ≠ g5 → w9.heap[b]? = w8.heap[b]? := fun b hb hn => (hg9.block b (by simp; omega) (by simpa [Value.ownBlock] using hn)).trans (Below.heap_alloc _ _ _ hb)
  have hs9 : w8.heap.size + 1 ≤ w9.heap.size := by have := hg9.size; simpa using this
  have hb9 := (hst9 w.heap.size (by omega) (by omega)).trans Hb8.out
  have hf9 : Fr w.heap.size w w9 := (Hf8.out.alloc _).grown hg9 (fun g hg => by simp [Value.ownBlock] at hg; omega)
  have k4 : w9.cell? ⟨w.heap.size, 4, none⟩ = some (.slice (some ⟨g5, 0, none⟩) 1 cap5) := by rw [cell_of_row _ _ _ _ _ _ hb9]; rfl
  have z4 := frozen_row hb9 4
  have hb10 := blk_set hb9 4 (.slice (some ⟨g9, 0, none⟩) 2 cap9)
  have hf10 : Fr w.heap.size w (w9.setCell ⟨w.heap.size, 4, none⟩ (.slice (some ⟨g9, 0, none⟩) 2 cap9)) := hf9.setCell (p := ⟨w.heap.size, 4, none⟩) (Nat.le_refl _) _
  have hst10 : ∀ b, b ≠ w.heap.size → (w9.setCell ⟨w.heap.size, 4, none⟩ (.slice (some ⟨g9, 0, none⟩) 2 cap9)).heap[b]? = w9.heap[b]? := fun b hb => Below.heap_setCell _ _ _ _ hb
  have hs10 : (w9.setCell ⟨w.heap.size, 4, none⟩ (.slice (some ⟨g9, 0, none⟩) 2 cap9)).heap.size = w9.heap.size := by simp [World.setCell]
  have n101 := N81.out.keep (fun b hb => (hst10 b (by omega)).trans (hst9 b (by omega) (by omega))) (fun b hb => hb)
  have n102 := N82.out.keep (fun b hb => (hst10 b (by have := hb.1; omega)).trans (hst9 b (by have := hb.2; omega) (by have := hb.1; omega))) (fun b hb => hb)
  have hown810 := own_block Hown8.out (w' := w9.setCell ⟨w.heap.size, 4, none⟩ (.slice (some ⟨g9, 0, none⟩) 2 cap9)) (fun b hb => by simp [Value.ownBlock] at hb; subst hb; exact (hst10 _ (by omega)).trans (hst9 _ r2 (by omega)))
  have ha0 : (w9.setCell ⟨w.heap.size, 4, none⟩ (.slice (some ⟨g9, 0, none⟩) 2 cap9)).cell? ⟨g9, 0, none⟩ = some (.int .i64 ((xs.length : Int) - 1)) := (World.cell?_of_block (a := ⟨g9, 0, none⟩) (hst10 g9 (by omega))).trans (hc9 0 _ rfl)
  have ha1 : (w9.setCell ⟨w.heap.size, 4, none⟩ (.slice (some ⟨g9, 0, none⟩) 2 cap9)).cell? ⟨g9, 1, none⟩ = some (.int .i64 ((xs.length : Int) + ys.length - 1)) := (World.cell?_of_block (a := ⟨g9, 1, none⟩) (hst10 g9 (by omega))).trans (hc9 1 _ rfl)
  have N101 := Lib.hid n101; have N102 := Lib.hid n102; have Hown810 := Lib.hid hown810; have Ha0 := Lib.hid ha0; have Ha1 := Lib.hid ha1; have Hb10 := Lib.hid hb10; have Hf10 := Lib.hid hf10; have Hs10 := Lib.hid hs10
  clear hown9 hg9 hat9 hc9 hst9 hb9 hf9 hst10 hb10 hf10 n101 n102 hown810 ha0 ha1 hs10 Hnews Hone2 Hown8 Hb8 Hf8 N81 N82 Hown58
  go_wp2_with fail
  rw [rounds_succ]
  generalize w9.setCell ⟨w.heap.size, 4, none⟩ (.slice (some ⟨g9, 0, none⟩) 2 cap9) = wx at *
  have k0 : wx.cell? ⟨w.heap.size, 0, none⟩ = some (.int .i64 kind) := by rw [cell_of_row _ _ _ _ _ _ Hb10.out]; rfl
  have k1 : wx.cell? ⟨w.heap.size, 1, none⟩ = some (.int .i64 0) := by rw [cell_of_row _ _ _ _ _ _ Hb10.out]; rfl
  have k2 : wx.cell? ⟨w.heap.size, 2, none⟩ = some (.int .i64 0) := by rw [cell_of_row _ _ _ _ _ _ Hb10.out]; rfl
  have k3 : wx.cell? ⟨w.heap.size, 3, none⟩ = some (.string ⟨#[]⟩) := by rw [cell_of_row _ _ _ _ _ _ Hb10.out]; rfl
  have k5 : wx.cell? ⟨w.heap.size, 4, none⟩ = some (.slice (some ⟨g9, 0, none⟩) 2 cap9) := by rw [cell_of_row _ _ _ _ _ _ Hb10.out]; rfl
  have hnews := cells_new wx #[.int .i64 kind, .int .i64 0, .int .i64 0, .string ⟨#[]⟩, .slice (some ⟨g9, 0, none⟩) 2 cap9] 66
  have Hnews := Lib.hid hnews
  clear hnews
  go_wp2_with (at_builtin; refine wpList_append_own_at _ rfl _ _ 26 rfl w2.heap.size 66 i0 _ 5 64 Tryz.underlying26 hi0 hz0 hz1 hz2 rfl (by decide) _ _ _ rfl (Hown810.out.alloc _) ⟨wx.heap.size, 0, none⟩ 1 1 [.int .i64 kind, .int .i64 0, .int .i64 0, .string ⟨#[]⟩, .slice (some ⟨g9, 0, none⟩) 2 cap9] rfl rfl ?d1 ?d2 ?d3 ?d4 ?d5 ?_)
  case d2 => simp [Value.oneCell']
  case d3 => unfold maxLen; omega
  case d4 => omega
  case d5 => have := Hs10.out; first | omega | (simp; omega)
  intro v11 w11 hown11 hg11 _ hat11
  have hsx := Hs10.out
  rcases row_cases hown11 with ⟨-, hn, -⟩ | ⟨g11, cap11, rfl, u1, u2, u3, hc11⟩
  · omega
  have hst11 : ∀ b, b < wx.heap.size → b ≠ g8 → w11.heap[b]? = wx.heap[b]? := fun b hb hn => (hg11.block b (by simp; omega) (by simpa [Value.ownBlock] using hn)).trans (Below.heap_alloc _ _ _ hb)
  have hs11 : wx.heap.size + 1 ≤ w11.heap.size := by have := hg11.size; simpa using this
  have hf11 : Fr w.heap.size w w11 := (Hf10.out.alloc _).grown hg11 (fun g hg => by simp [Value.ownBlock] at hg; omega)
  have m1' := N101.out.keep (T := fun b => w.heap.size ≤ b ∧ b < w11.heap.size) (fun b hb => hst11 b (by omega) (by omega)) (fun b hb => by omega)
  have m2' := N102.out.keep (T := fun b => w.heap.size ≤ b ∧ b < w11.heap.size) (fun b hb => hst11 b (by have := hb.2; omega) (by have := hb.1; have := hb.2; omega)) (fun b hb => by have := hb.2; omega)
  have m3' : NodesC (fun b => w.heap.size ≤ b ∧ b < w11.heap.size) w11 [⟨kind, 0, 0, [], [(xs.length : Int) - 1, (xs.length : Int) + (ys.length : Int) - 1]⟩] [[.int .i64 kind, .int .i64 0, .int .i64 0, .string ⟨#[]⟩, .slice (some ⟨g9, 0, none⟩) 2 cap9]] := by
    refine ⟨rfl, fun i y c hy hc => ?_⟩
    rcases i with _ | i
    · simp at hy hc
      subst hy; subst hc
      refine ⟨some ⟨g9, 0, none⟩, cap9, rfl, .inr ⟨g9, 0, rfl, by omega, fun j y hy => ?_⟩, by simpa using s3, fun h => by cases h⟩
      have hb := hst11 g9 (by omega) (by omega)
      rcases j with _ | _ | j
      · simp at hy; subst hy
        exact (World.cell?_of_block (a := ⟨g9, 0, none⟩) hb).trans Ha0.out
      · simp at hy; subst hy
        exact (World.cell?_of_block (a := ⟨g9, 1, none⟩) hb).trans Ha1.out
      · simp at hy
    · simp at hy
  have hall := m1'.append (m2'.append m3')
  have hlen : (overL kind xs ys).length = xs.length + ys.length + 1 := by unfold overL; rw [List.length_append, List.length_append, shiftL_length, shiftL_length, List.length_singleton]; omega
  have hok : ∀ x ∈ overL kind xs ys, NodeOk x := fun x hx => by
    unfold overL at hx
    rcases List.mem_append.1 hx with h | h
    · exact shift_ok Hxo.out x h
    · rcases List.mem_append.1 h with h | h
      · exact shift_ok Hyo.out x h
      · rw [List.mem_singleton] at h
        subst h
        exact ⟨hk, by simp [InI], by simp [InI], Nat.zero_le _⟩
  have hlim : LimNew w w11 (some ⟨g11, 0, none⟩) (overL kind xs ys) := fun w'' hs hz => NodesC.lim (hall.keep hs (fun b hb => by omega)) hok (by omega) (fun j u hu => (World.cell?_of_block (w := w11) (a := ⟨g11, j, none⟩) (hs g11 ⟨by omega, u2⟩)).trans (hc11 j u (by
    rw [List.flatten_append, List.flatten_append] at hu
    simpa using hu)))
  have Hlim := Lib.hid hlim; have Hf11 := Lib.hid hf11; have Hlen := Lib.hid hlen
  clear hown11 hg11 hat11 hc11 hst11 hf11 m1' m2' m3' hall hok hlim hlen
  go_wp2_with fail
  go_ret
  exact ⟨⟨g11, cap11, by rw [Hlen.out]; rfl, Hlim.out⟩, Hf11.out⟩
end Go.Proofs.YtgdedcdjfljcnaaGreatDoor
