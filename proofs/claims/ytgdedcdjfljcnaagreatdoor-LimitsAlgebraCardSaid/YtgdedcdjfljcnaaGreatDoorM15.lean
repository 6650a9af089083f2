/- The example's constraint: CheckLimits. Constraints of whole numbers as trees, and their nodes one behind the other. What the operands of a constraint's nodes are: they stand before the node. -/
import Derived.Test.YtgdedcdjfljcnaaGreatDoorM14
import Derived.Test.YtgdedcdjfljcnaaGreatDoorM21
import Derived.Test.YtgdedcdjfljcnaaGreatDoorM10
namespace Go.Proofs.YtgdedcdjfljcnaaGreatDoor
open Go.RowKit

/-- INTEGER (1..5, ..., 8): its nodes. -/
def exE : List LN := [⟨0, 1, 5, [], []⟩, ⟨0, 8, 8, [], []⟩, ⟨7, 0, 0, [], [0, 1]⟩]
theorem exE_tree : tyErr exE = 0 := by decide
theorem exE_args : ∀ (i : Nat) (x : LN), exE[i]? = some x → (∀ a ∈ x.args, 0 ≤ a ∧ a < (i : Int)) ∧ x.args.length ≤ 20 := by
  intro i x hx
  rcases i with _ | _ | _ | i
  · cases hx; simp
  · cases hx; simp
  · cases hx; simp
  · simp [exE] at hx
theorem exE_subj (xs : List NX) (hl : xs.length = 3) (h : ∀ (k : Nat) x, xs[k]? = some x → x.i = 3 - 1 - k ∧ exE[x.i]? = some x.nd) : subjAll 2 3 xs = [1, 1, 1] := by
  obtain ⟨x0, x1, x2, rfl⟩ : ∃ a b c, xs = [a, b, c] := by
    rcases xs with _ | ⟨a, _ | ⟨b, _ | ⟨c, _ | _⟩⟩⟩ <;> simp_all
  obtain ⟨i0, n0⟩ := h 0 x0 rfl
  obtain ⟨i1, n1⟩ := h 1 x1 rfl
  obtain ⟨i2, n2⟩ := h 2 x2 rfl
  rw [i0] at n0; rw [i1] at n1; rw [i2] at n2
  have n0' : x0.nd = ⟨7, 0, 0, [], [0, 1]⟩ := by injection n0 with e; exact e.symm
  have n1' : x1.nd = ⟨0, 8, 8, [], []⟩ := by injection n1 with e; exact e.symm
  have n2' : x2.nd = ⟨0, 1, 5, [], []⟩ := by injection n2 with e; exact e.symm
  simp [subjAll, subjNode, subjTop, subjArg, i0, i1, i2, n0', n1', n2']
  decide

theorem subjects_E {B : Nat} (b off c : Nat) (w : World) (h : LimAt B w (some ⟨b, off, none⟩) exE) (hB : B ≤ w.heap.size) :
    Calls Tryz.prog 73 #[.agg #[.int .i64 2, .string ⟨#[]⟩, .slice none 0 0, .slice none 0 0, .bool false, .int .i64 0, .slice none 0 0, .slice (some ⟨b, off, none⟩) 3 c]] w fun e w' => e = .returned (.slice (some ⟨w.heap.size + 1, 0, none⟩) 3 3) ∧ Fr w.heap.size w w' ∧ w'.cell? ⟨w.heap.size + 1, 0, none⟩ = some (.int .i64 1) ∧ w'.cell? ⟨w.heap.size + 1, 1, none⟩ = some (.int .i64 1) ∧ w'.cell? ⟨w.heap.size + 1, 2, none⟩ = some (.int .i64 1) := by
  refine (subjects_any (B := B) exE (some ⟨b, off, none⟩) c 2 (.string ⟨#[]⟩) (.slice none 0 0) (.slice none 0 0) (.bool false) (.int .i64 0) (.slice none 0 0) w h hB (by decide) exE_args (by simp [exE])).mono ?_
  rintro e w2 ⟨xs, hxl, hxs, rfl, hb2, hrow⟩
  have hx := exE_subj xs hxl hxs
  change ∀ (j : Nat) x, (subjAll 2 3 xs)[j]? = some x → _ at hrow
  rw [hx] at hrow
  exact ⟨rfl, ⟨Nat.le_refl _, hb2⟩, hrow 0 1 rfl, hrow 1 1 rfl, hrow 2 1 rfl⟩
set_option maxRecDepth 100000 in
set_option maxHeartbeats 4000000 in
theorem CheckLimits_E {B : Nat} (b off c : Nat) (w : World) (h : LimAt B w (some ⟨b, off, none⟩) exE) (hB : B ≤ w.heap.size) (hp : PartTy w) :
    Calls Tryz.prog 43 #[.agg #[.int .i64 2, .string ⟨#[]⟩, .slice none 0 0, .slice none 0 0, .bool false, .int .i64 0, .slice none 0 0, .slice (some ⟨b, off, none⟩) 3 c]] w fun e w' => e = .returned (.tuple #[.int .i64 3, .int .i64 0]) ∧ Fr w.heap.size w w' := by
  have hf := (Fr.self w).alloc (.cells #[.int .i64 2, .string ⟨#[]⟩, .slice none 0 0, .slice none 0 0, .bool false, .int .i64 0, .slice none 0 0, .slice (some ⟨b, off, none⟩) 3 c] 28)
  have Hck := Lib.hid (fun w (h : LimAt B w (some ⟨b, off, none⟩) exE) hB hp => exE_tree ▸ CheckType_any (B := B) exE (some ⟨b, off, none⟩) c w h hB (by decide) (by simp [exE]) hp)
  have hsu : subj 2 = 1 := rfl
  have Hsu := Lib.hid (fun w => hsu ▸ subjectOf_any 2 w)
  have Hs := Lib.hid (fun w => subjects_E (B := B) b off c w)
  have Hk := Lib.hid (fun k => cell_new w #[.int .i64 2, .string ⟨#[]⟩, .slice none 0 0, .slice none 0 0, .bool false, .int .i64 0, .slice none 0 0, .slice (some ⟨b, off, none⟩) 3 c] 28 k)
  have Hn0 := Lib.hid (fun (A : Option Addr) (cn : Nat) w => nodeError_range (.string ⟨#[]⟩) (.slice none 0 0) (.slice none 0 0) (.bool false) (.int .i64 0) (.slice none 0 0) b off 3 c 0 1 5 A 0 cn w (by omega))
  have Hn1 := Lib.hid (fun (A : Option Addr) (cn : Nat) w => nodeError_range (.string ⟨#[]⟩) (.slice none 0 0) (.slice none 0 0) (.bool false) (.int .i64 0) (.slice none 0 0) b off 3 c 1 8 8 A 0 cn w (by omega))
  have Hn2 := Lib.hid (fun (A : Option Addr) (cn : Nat) w => nodeError_marker (.string ⟨#[]⟩) (.slice none 0 0) (.slice none 0 0) (.bool false) (.int .i64 0) (.slice none 0 0) b off 3 c 2 A 2 cn w (by omega))
  have hbB : b < B := by
    obtain ⟨h1, -⟩ := h.item (i := 0) rfl
    exact h1
  have H := Lib.hid h; have Hp := Lib.hid hp
  clear h hp hsu
  go_enter Tryz.func43, Tryz.ntmps43
  go_wp2_with fail
  refine (Hck.out _ (H.out.keep (hf.2.mono hB)) (Nat.le_trans hB hf.2.size) (Hp.out.keep hf.2)).mono ?_
  rintro e w1 ⟨rfl, hf1⟩
  have hk : ∀ k, w1.cell? ⟨w.heap.size, k, none⟩ = #[.int .i64 2, .string ⟨#[]⟩, .slice none 0 0, .slice none 0 0, .bool false, .int .i64 0, .slice none 0 0, .slice (some ⟨b, off, none⟩) 3 c][k]? := fun k => (hf1.cell (p := ⟨w.heap.size, k, none⟩) (by simp)).trans (Hk.out k)
  have hfw : Fr w.heap.size w w1 := hf.trans hf1
  have hz1 : w.heap.size < w1.heap.size := Nat.lt_of_lt_of_le (by simp) hf1.2.size
  clear hf hf1 Hk
  have k0 := hk 0; have k1 := hk 1; have k2 := hk 2; have k3 := hk 3; have k4 := hk 4; have k5 := hk 5; have k6 := hk 6; have k7 := hk 7
  have Hk := Lib.hid hk
  clear hk
  go_wp2_with (go_at_call 44; refine (Hsu.out _).mono ?_; rintro e w' ⟨rfl, rfl⟩)
  refine (Hs.out _ (H.out.keep (hfw.2.mono hB)) (Nat.le_trans hB hfw.2.size)).mono ?_
  rintro e w2 ⟨rfl, hf2, r0, r1, r2⟩
  have hz2 : w1.heap.size + 1 < w2.heap.size := cell_block r0
  have hF2 : Fr w.heap.size w w2 := hfw.trans hf2
  have hKK : ∀ k, w2.cell? ⟨w.heap.size, k, none⟩ = #[.int .i64 2, .string ⟨#[]⟩, .slice none 0 0, .slice none 0 0, .bool false, .int .i64 0, .slice none 0 0, .slice (some ⟨b, off, none⟩) 3 c][k]? := fun k => (hf2.cell (p := ⟨w.heap.size, k, none⟩) hz1).trans (Hk.out k)
  have HKK := Lib.hid hKK
  clear hKK Hk k0 k1 k2 k3 k4 k5 k6 k7 hf2 hfw
  have k0 := HKK.out 0; have k1 := HKK.out 1; have k2 := HKK.out 2; have k3 := HKK.out 3; have k4 := HKK.out 4; have k5 := HKK.out 5; have k6 := HKK.out 6; have k7 := HKK.out 7
  go_wp2_with fail
  refine wp_loop_rounds 4 ?_
  rw [rounds_succ]
  go_wp2_with fail
  obtain ⟨-, A0, ca0, -, e0, e1, e2, e3, e4⟩ := (H.out.keep (hF2.2.mono hB)).item (i := 0) rfl
  refine (Hn0.out A0 ca0 w2 (Nat.lt_of_lt_of_le hbB (Nat.le_trans hB hF2.2.size)) (by omega) (by omega) (by omega) e0 e1 e2 e3 e4 (by omega)).mono ?_
  rintro e w3 ⟨rfl, hf3⟩
  clear e0 e1 e2 e3 e4
  have hF3 : Fr w.heap.size w w3 := hF2.trans hf3
  have hG3 : Fr w2.heap.size w2 w3 := hf3
  clear hf3 k0 k1 k2 k3 k4 k5 k6 k7
  have hk : ∀ k, w3.cell? ⟨w.heap.size, k, none⟩ = #[.int .i64 2, .string ⟨#[]⟩, .slice none 0 0, .slice none 0 0, .bool false, .int .i64 0, .slice none 0 0, .slice (some ⟨b, off, none⟩) 3 c][k]? := fun k => (hG3.cell (p := ⟨w.heap.size, k, none⟩) (Nat.lt_trans hz1 (Nat.lt_of_succ_lt hz2))).trans (HKK.out k)
  have k0 := hk 0; have k1 := hk 1; have k2 := hk 2; have k3 := hk 3; have k4 := hk 4; have k5 := hk 5; have k6 := hk 6; have k7 := hk 7
  clear hk
  have t1 : w3.cell? ⟨w1.heap.size + 1, 1, none⟩ = some (.int .i64 1) := (hG3.cell (p := ⟨w1.heap.size + 1, 1, none⟩) hz2).trans r1
  go_wp2_with fail
  rw [rounds_succ]
  go_wp2_with fail
  obtain ⟨-, A1, ca1, -, e0, e1, e2, e3, e4⟩ := (H.out.keep (hF3.2.mono hB)).item (i := 1) rfl
  refine (Hn1.out A1 ca1 w3 (Nat.lt_of_lt_of_le hbB (Nat.le_trans hB hF3.2.size)) (by omega) (by omega) (by omega) e0 e1 e2 e3 e4 (by omega)).mono ?_
  rintro e w4 ⟨rfl, hf4⟩
  clear e0 e1 e2 e3 e4
  have hF4 : Fr w.heap.size w w4 := hF3.trans hf4
  have hG4 : Fr w2.heap.size w2 w4 := hG3.trans hf4
  clear hf4 hG3 hF3 k0 k1 k2 k3 k4 k5 k6 k7
  have hk : ∀ k, w4.cell? ⟨w.heap.size, k, none⟩ = #[.int .i64 2, .string ⟨#[]⟩, .slice none 0 0, .slice none 0 0, .bool false, .int .i64 0, .slice none 0 0, .slice (some ⟨b, off, none⟩) 3 c][k]? := fun k => (hG4.cell (p := ⟨w.heap.size, k, none⟩) (Nat.lt_trans hz1 (Nat.lt_of_succ_lt hz2))).trans (HKK.out k)
  have k0 := hk 0; have k1 := hk 1; have k2 := hk 2; have k3 := hk 3; have k4 := hk 4; have k5 := hk 5; have k6 := hk 6; have k7 := hk 7
  clear hk
  have t1 : w4.cell? ⟨w1.heap.size + 1, 2, none⟩ = some (.int .i64 1) := (hG4.cell (p := ⟨w1.heap.size + 1, 2, none⟩) hz2).trans r2
  go_wp2_with fail
  rw [rounds_succ]
  go_wp2_with fail
  obtain ⟨-, A2, ca2, -, e0, e1, e2, e3, e4⟩ := (H.out.keep (hF4.2.mono hB)).item (i := 2) rfl
  refine (Hn2.out A2 ca2 w4 (Nat.lt_of_lt_of_le hbB (Nat.le_trans hB hF4.2.size)) e0 e1 e2 e3 e4 (by omega)).mono ?_
  rintro e w5 ⟨rfl, hf5⟩
  clear e0 e1 e2 e3 e4
  have hF5 : Fr w.heap.size w w5 := hF4.trans hf5
  have hG5 : Fr w2.heap.size w2 w5 := hG4.trans hf5
  clear hf5 hF4 hG4 k0 k1 k2 k3 k4 k5 k6 k7
  have hk : ∀ k, w5.cell? ⟨w.heap.size, k, none⟩ = #[.int .i64 2, .string ⟨#[]⟩, .slice none 0 0, .slice none 0 0, .bool false, .int .i64 0, .slice none 0 0, .slice (some ⟨b, off, none⟩) 3 c][k]? := fun k => (hG5.cell (p := ⟨w.heap.size, k, none⟩) (Nat.lt_trans hz1 (Nat.lt_of_succ_lt hz2))).trans (HKK.out k)
  have k0 := hk 0; have k7 := hk 7
  clear hk
  go_wp2_with fail
  rw [rounds_succ]
  go_wp2_with fail
  go_ret2
  exact ⟨rfl, hF5⟩
end Go.Proofs.YtgdedcdjfljcnaaGreatDoor
namespace Go.Proofs.YtgdedcdjfljcnaaGreatDoor
open Go.RowKit

/-- A constraint of whole numbers: ranges, joined. -/
inductive CT where
  | leaf (lo hi : Int)
  | node (k : Int) (a b : CT)
def CT.size : CT → Nat
  | .leaf _ _ => 1
  | .node _ a b => a.size + b.size + 1
def CT.leaves : CT → Nat
  | .leaf _ _ => 1
  | .node _ a b => a.leaves + b.leaves
/-- Its nodes from a place on. -/
def CT.flat : CT → Nat → List LN
  | .leaf lo hi, _ => [⟨0, lo, hi, [], []⟩]
  | .node k a b, o => a.flat o ++ (b.flat (o + a.size) ++ [⟨k, 0, 0, [], [((o + a.size : Nat) : Int) - 1, ((o + a.size + b.size : Nat) : Int) - 1]⟩])
def CT.good : CT → Prop
  | .leaf lo hi => okB ⟨lo, hi⟩ = true
  | .node k a b => (k = 4 ∨ k = 5 ∨ k = 6) ∧ a.good ∧ b.good
/-- The numbers that satisfy it. -/
def CT.nums : CT → List Sp
  | .leaf lo hi => [⟨lo, hi⟩]
  | .node k a b => combineL (operOf k) a.nums b.nums
theorem CT.size_pos : ∀ T : CT, 0 < T.size
  | .leaf _ _ => Nat.one_pos
  | .node _ _ _ => Nat.succ_pos _
theorem CT.size_leaves : ∀ T : CT, T.size + 1 = 2 * T.leaves
  | .leaf _ _ => rfl
  | .node _ a b => by have := a.size_leaves; have := b.size_leaves; rw [CT.size, CT.leaves]; omega
theorem CT.flat_length : ∀ (T : CT) (o : Nat), (T.flat o).length = T.size
  | .leaf _ _, _ => rfl
  | .node _ a b, o => by rw [CT.flat, List.length_append, List.length_append, a.flat_length, b.flat_length, CT.size, List.length_singleton]; omega
theorem CT.nums_ok : ∀ T : CT, T.good → Canon T.nums ∧ (∀ s ∈ T.nums, okB s = true) ∧ T.nums.length ≤ T.leaves
  | .leaf lo hi, h => by
    refine ⟨⟨by simp [CT.nums], fun s hs => ?_⟩, fun s hs => ?_, Nat.le_refl _⟩
    · rw [CT.nums, List.mem_singleton] at hs; subst hs; exact (okB_in h).1
    · rw [CT.nums, List.mem_singleton] at hs; subst hs; exact h
  | .node k a b, h => by
    obtain ⟨-, h1, h2⟩ := h
    obtain ⟨a1, a2, a3⟩ := a.nums_ok h1
    obtain ⟨b1, b2, b3⟩ := b.nums_ok h2
    obtain ⟨c1, c2, c3, c4⟩ := combine_ok (operOf k) a.nums b.nums a2 b2
    exact ⟨c1, c2, by rw [CT.nums, CT.leaves]; omega⟩
/-- Where the nodes of a tree stand in a list. -/
def SubL (l : List LN) (o : Nat) (T : CT) : Prop := ∀ j x, (T.flat o)[j]? = some x → l[o + j]? = some x
theorem SubL.left {l : List LN} {o : Nat} {k : Int} {a b : CT} (h : SubL l o (.node k a b)) : SubL l o a := fun j x hx => h j x (by
  rw [CT.flat, List.getElem?_append_left (List.getElem?_eq_some_iff.1 hx).1]; exact hx)
theorem SubL.right {l : List LN} {o : Nat} {k : Int} {a b : CT} (h : SubL l o (.node k a b)) : SubL l (o + a.size) b := fun j x hx => by
  rw [Nat.add_assoc]
  refine h (a.size + j) x ?_
  rw [CT.flat, List.getElem?_append_right (by rw [a.flat_length]; omega), a.flat_length, Nat.add_sub_cancel_left, List.getElem?_append_left (List.getElem?_eq_some_iff.1 hx).1]
  exact hx
theorem CT.flat_root (k : Int) (a b : CT) (o : Nat) : ((CT.node k a b).flat o)[a.size + b.size]? = some ⟨k, 0, 0, [], [((o + a.size : Nat) : Int) - 1, ((o + a.size + b.size : Nat) : Int) - 1]⟩ := by
  rw [CT.flat, List.getElem?_append_right (by rw [a.flat_length]; omega), a.flat_length, Nat.add_sub_cancel_left, List.getElem?_append_right (by rw [b.flat_length]; omega), b.flat_length, Nat.sub_self]; rfl
theorem SubL.root {l : List LN} {o : Nat} {k : Int} {a b : CT} (h : SubL l o (.node k a b)) : l[o + a.size + b.size]? = some ⟨k, 0, 0, [], [((o + a.size : Nat) : Int) - 1, ((o + a.size + b.size : Nat) : Int) - 1]⟩ := by
  have := h _ _ (CT.flat_root k a b o)
  rwa [← Nat.add_assoc] at this
theorem SubL.self (T : CT) : SubL (T.flat 0) 0 T := fun j x hx => by rw [Nat.zero_add]; exact hx
/-- What a position of a tree of two operands is. -/
theorem CT.flat_cases {k : Int} {a b : CT} {o j : Nat} {x : LN} (h : ((CT.node k a b).flat o)[j]? = some x) :
    (a.flat o)[j]? = some x ∨ (∃ i, j = a.size + i ∧ (b.flat (o + a.size))[i]? = some x) ∨ (j = a.size + b.size ∧ x = ⟨k, 0, 0, [], [((o + a.size : Nat) : Int) - 1, ((o + a.size + b.size : Nat) : Int) - 1]⟩) := by
  rw [CT.flat, List.getElem?_append] at h
  split at h
  · exact .inl h
  · rename_i h1
    rw [a.flat_length] at h1 h
    rw [List.getElem?_append] at h
    split at h
    · exact .inr (.inl ⟨j - a.size, by omega, h⟩)
    · rename_i h2
      rw [b.flat_length] at h2 h
      have h3 := (List.getElem?_eq_some_iff.1 h).1
      rw [List.length_singleton] at h3
      have : j - a.size - b.size = 0 := by omega
      rw [this] at h
      exact .inr (.inr ⟨by omega, by simpa using h.symm⟩)
theorem CT.flat_node : ∀ (T : CT) (o j : Nat) (x : LN), T.good → (T.flat o)[j]? = some x → (∃ lo hi, x = ⟨0, lo, hi, [], []⟩ ∧ okB ⟨lo, hi⟩ = true) ∨ ∃ k i i', x = ⟨k, 0, 0, [], [i, i']⟩ ∧ (k = 4 ∨ k = 5 ∨ k = 6)
  | .leaf lo hi, o, j, x, hg, h => by
    have h3 := (List.getElem?_eq_some_iff.1 h).1
    rw [CT.flat, List.length_singleton] at h3
    obtain rfl : j = 0 := by omega
    cases h
    exact .inl ⟨lo, hi, rfl, hg⟩
  | .node k a b, o, j, x, hg, h => by
    rcases CT.flat_cases h with h' | ⟨i, -, h'⟩ | ⟨-, rfl⟩
    · exact a.flat_node o j x hg.2.1 h'
    · exact b.flat_node _ i x hg.2.2 h'
    · exact .inr ⟨k, _, _, rfl, hg.1⟩
theorem CT.flat_args : ∀ (T : CT) (o j : Nat) (x : LN), (T.flat o)[j]? = some x → ∀ a ∈ x.args, (o : Int) ≤ a ∧ a < ((o + j : Nat) : Int)
  | .leaf lo hi, o, j, x, h => by
    have h3 := (List.getElem?_eq_some_iff.1 h).1
    rw [CT.flat, List.length_singleton] at h3
    obtain rfl : j = 0 := by omega
    cases h
    simp
  | .node k a b, o, j, x, h => by
    rcases CT.flat_cases h with h' | ⟨i, rfl, h'⟩ | ⟨rfl, rfl⟩
    · exact a.flat_args o j x h'
    · intro c hc
      have := b.flat_args _ i x h' c hc
      omega
    · intro c hc
      have := a.size_pos; have := b.size_pos
      simp at hc
      rcases hc with rfl | rfl <;> omega
/-- Each node but the last one is an operand of a later one. -/
theorem CT.flat_parent : ∀ (T : CT) (o j : Nat), j + 1 < T.size → ∃ i x, j < i ∧ (T.flat o)[i]? = some x ∧ ((o + j : Nat) : Int) ∈ x.args
  | .leaf lo hi, o, j, h => by rw [CT.size] at h; omega
  | .node k a b, o, j, h => by
    rw [CT.size] at h
    by_cases h1 : j + 1 < a.size
    · obtain ⟨i, x, h2, h3, h4⟩ := a.flat_parent o j h1
      exact ⟨i, x, h2, by rw [CT.flat, List.getElem?_append_left (List.getElem?_eq_some_iff.1 h3).1]; exact h3, h4⟩
    · by_cases h5 : j + 1 = a.size
      · exact ⟨a.size + b.size, _, by have := b.size_pos; omega, CT.flat_root k a b o, by simp; omega⟩
      · by_cases h6 : j - a.size + 1 < b.size
        · obtain ⟨i, x, h2, h3, h4⟩ := b.flat_parent (o + a.size) (j - a.size) h6
          refine ⟨a.size + i, x, by omega, ?_, by rw [show o + j = o + a.size + (j - a.size) by omega]; exact h4⟩
          rw [CT.flat, List.getElem?_append_right (by rw [a.flat_length]; omega), a.flat_length, Nat.add_sub_cancel_left, List.getElem?_append_left (List.getElem?_eq_some_iff.1 h3).1]
          exact h3
        · exact ⟨a.size + b.size, _, by omega, CT.flat_root k a b o, by simp; omega⟩
/-- Its nodes are one tree. -/
theorem CT.tree_go : ∀ (T : CT) (o : Nat) (rest : List LN) (roots : List Int), T.good → treeGo (T.flat o ++ rest) o roots = treeGo rest ((o + T.size : Nat) : Int) (roots ++ [((o + T.size : Nat) : Int) - 1])
  | .leaf lo hi, o, rest, roots, _ => by
    rw [CT.flat, List.singleton_append, treeGo, if_pos]
    · rw [CT.size]; simp
    · simp [nodeB]
  | .node k a b, o, rest, roots, h => by
    rw [CT.flat, List.append_assoc, List.append_assoc, a.tree_go o _ _ h.2.1, b.tree_go (o + a.size) _ _ h.2.2, List.singleton_append, treeGo, if_pos]
    · rw [CT.size]
      simp only [List.length_append, List.length_cons, List.length_nil, List.append_assoc]
      rw [show roots.length + (0 + 1 + (0 + 1)) - (0 + 1 + 1) = roots.length by omega, List.take_left]
      rw [show (((o + a.size + b.size : Nat) : Int) + 1) = ((o + (a.size + b.size + 1) : Nat) : Int) by omega, show (((o + a.size + b.size : Nat) : Int)) = ((o + (a.size + b.size + 1) : Nat) : Int) - 1 by omega]
    · refine ⟨?_, by simp, ?_⟩
      · rcases h.1 with rfl | rfl | rfl <;> simp [nodeB]
      · simp only [List.length_append, List.length_cons, List.length_nil, List.append_assoc]
        rw [show roots.length + (0 + 1 + (0 + 1)) - (0 + 1 + 1) = roots.length by omega, List.drop_left]
        rfl
theorem CT.tree_ok (T : CT) (h : T.good) (hs : T.size ≤ 20) : treeB (T.flat 0) = true := by
  unfold treeB
  rw [if_neg (by rw [T.flat_length]; omega)]
  have := T.tree_go 0 [] [] h
  rw [List.append_nil] at this
  rw [show (0 : Int) = ((0 : Nat) : Int) by rfl, this, treeGo]
  simp
/-- What each node is about: numbers. -/
theorem set_one {s : List Int} {i j : Nat} (h : s[j]? = some 1 ∨ (i = j ∧ j < s.length)) : (s.set i 1)[j]? = some 1 := by
  rw [List.getElem?_set]
  split
  · rename_i h1
    rcases h with h | ⟨-, h⟩
    · rw [if_pos (h1 ▸ (List.getElem?_eq_some_iff.1 h).1)]
    · rw [if_pos (h1 ▸ h)]
  · rename_i h1
    rcases h with h | ⟨h, -⟩
    · exact h
    · exact absurd h h1
theorem CT.subj_ones (T : CT) (hg : T.good) (xs : List NX) (hl : xs.length = T.size) (hx : ∀ (k : Nat) x, xs[k]? = some x → x.i = T.size - 1 - k ∧ (T.flat 0)[x.i]? = some x.nd) : subjAll 2 T.size xs = List.replicate T.size 1 := by
  have hpos := T.size_pos
  have key : ∀ k, k ≤ T.size → ∀ j, (j + 1 = T.size ∧ 0 < k) ∨ (∃ i x, T.size - k ≤ i ∧ (T.flat 0)[i]? = some x ∧ (j : Int) ∈ x.args) → (subjAll 2 T.size (xs.take k))[j]? = some 1 := by
    intro k
    induction k with
    | zero =>
      intro _ j hj
      rcases hj with ⟨-, h⟩ | ⟨i, x, h1, h2, -⟩
      · omega
      · have := (List.getElem?_eq_some_iff.1 h2).1
        rw [T.flat_length] at this; omega
    | succ k ih =>
      intro hk j hj
      obtain ⟨y, hy⟩ : ∃ y, xs[k]? = some y := ⟨_, List.getElem?_eq_getElem (by omega)⟩
      obtain ⟨h1, h2⟩ := hx k y hy
      rw [List.take_add_one, hy]
      show (subjAll 2 T.size (xs.take k ++ [y]))[j]? = some 1
      rw [subjAll_snoc]
      have hlen := subjAll_length 2 T.size (xs.take k)
      have hself : ∃ s : List Int, subjTop 2 T.size y (subjAll 2 T.size (xs.take k)) = s ∧ s.length = T.size ∧ s[y.i]? = some 1 ∧ ∀ j : Nat, (subjAll 2 T.size (xs.take k))[j]? = some 1 → s[j]? = some 1 := by
        refine ⟨_, rfl, by rw [subjTop_length, hlen], ?_, ?_⟩
        · unfold subjTop
          split
          · exact set_one (.inr ⟨rfl, by rw [hlen]; omega⟩)
          · rename_i hn
            refine ih (by omega) y.i (.inr ?_)
            obtain ⟨i, x, h3, h4, h5⟩ := T.flat_parent 0 y.i (by omega)
            exact ⟨i, x, by omega, h4, by simpa using h5⟩
        · intro j hj
          unfold subjTop
          split
          · exact set_one (.inl hj)
          · exact hj
      unfold subjNode
      obtain ⟨s, hs, hsl, hs1, hs2⟩ := hself
      rw [hs]
      have hfold : ∀ (zs : List Int) (s : List Int), (∀ a ∈ zs, 0 ≤ a ∧ a < (T.size : Int)) → s.length = T.size → s[y.i]? = some 1 → ∀ j : Nat, (s[j]? = some 1 ∨ (j : Int) ∈ zs) → (zs.foldl (subjArg y) s)[j]? = some 1 := by
        intro zs
        induction zs with
        | nil =>
          intro s _ _ _ j hj
          rcases hj with h | h
          · exact h
          · simp at h
        | cons a r ih2 =>
          intro s ha hl h1' j hj
          rw [List.foldl_cons]
          have ho : operSubj y.nd.kind (s.getD y.i 0) = 1 := by
            rw [List.getD_eq_getElem?_getD, h1']
            rcases T.flat_node 0 y.i y.nd hg h2 with ⟨lo, hi, e, -⟩ | ⟨k', i1, i2, e, hk'⟩
            · rw [e]; rfl
            · rw [e]; rcases hk' with rfl | rfl | rfl <;> rfl
          unfold subjArg
          rw [ho]
          refine ih2 _ (fun c hc => ha c (by simp [hc])) (by rw [List.length_set]; exact hl) (set_one (.inl h1')) j ?_
          rcases hj with h | h
          · exact .inl (set_one (.inl h))
          · rcases List.mem_cons.1 h with h | h
            · have := ha a (by simp)
              exact .inl (set_one (.inr ⟨by omega, by rw [hl]; omega⟩))
            · exact .inr h
      refine hfold y.nd.args s (fun a ha => ?_) hsl hs1 j ?_
      · have := T.flat_args 0 y.i y.nd h2 a ha
        omega
      · rcases hj with ⟨h3, -⟩ | ⟨i, x, h3, h4, h5⟩
        · by_cases hk0 : k = 0
          · subst hk0
            exact .inl (by rw [show j = y.i by omega]; exact hs1)
          · exact .inl (hs2 j (ih (by omega) j (.inl ⟨h3, by omega⟩)))
        · by_cases hik : T.size - k ≤ i
          · exact .inl (hs2 j (ih (by omega) j (.inr ⟨i, x, hik, h4, h5⟩)))
          · have : i = y.i := by omega
            subst this
            rw [h2] at h4
            injection h4 with h4
            exact .inr (h4 ▸ h5)
  have hall := key T.size (Nat.le_refl _)
  rw [List.take_of_length_le (by omega)] at hall
  apply List.ext_getElem?
  intro j
  by_cases hj : j < T.size
  · rw [List.getElem?_replicate, if_pos hj]
    refine hall j ?_
    by_cases h1 : j + 1 = T.size
    · exact .inl ⟨h1, hpos⟩
    · obtain ⟨i, x, h3, h4, h5⟩ := T.flat_parent 0 j (by omega)
      exact .inr ⟨i, x, by omega, h4, by simpa using h5⟩
  · rw [List.getElem?_eq_none (by rw [subjAll_length]; omega), List.getElem?_eq_none (by simp; omega)]

/-- Nodes whose operands stand so many places further. -/
def shiftL (k : Int) (l : List LN) : List LN := l.map fun x => ⟨x.kind, x.lo, x.hi, x.text, x.args.map (· + k)⟩
theorem CT.flat_shift : ∀ (T : CT) (o k : Nat), shiftL (k : Int) (T.flat o) = T.flat (o + k)
  | .leaf lo hi, o, k => rfl
  | .node c a b, o, k => by
    unfold shiftL at *
    rw [CT.flat, List.map_append, List.map_append]
    have h1 := a.flat_shift o k
    have h2 := b.flat_shift (o + a.size) k
    unfold shiftL at h1 h2
    rw [h1, h2, CT.flat, show o + a.size + k = o + k + a.size by omega]
    simp
    constructor <;> omega
def overL (kind : Int) (a b : List LN) : List LN := shiftL 0 a ++ (shiftL (a.length : Int) b ++ [⟨kind, 0, 0, [], [(a.length : Int) - 1, (a.length : Int) + (b.length : Int) - 1]⟩])
theorem over_flat (kind : Int) (A B : CT) : overL kind (A.flat 0) (B.flat 0) = (CT.node kind A B).flat 0 := by
  unfold overL
  rw [A.flat_length, B.flat_length, CT.flat]
  have h1 := A.flat_shift 0 0
  have h2 := B.flat_shift 0 A.size
  rw [Nat.add_zero] at h1
  rw [show (0 : Int) = ((0 : Nat) : Int) by rfl, h1, h2]
  simp

/-- The beginning of what stands before a node's operands. -/
def backL (bs : List Int) : List Int → Int → Option Int
  | [], nx => some nx
  | a :: t, nx => if nx = 0 ∨ a ≠ nx - 1 then none else backL bs t (bs.getD (nx - 1).toNat 0)
def limGo : List LN → Int → List Int → Bool
  | [], _, bs => decide (bs.getLastD 0 = 0)
  | x :: t, i, bs => if nodeB x = true then (match backL bs x.args.reverse i with | none => false | some nx => limGo t (i + 1) (bs ++ [nx])) else false
/-- Nodes of a constraint are a tree, as the reference says it. -/
def isLimB (l : List LN) : Bool := if l.length = 0 then true else if 20 < l.length then false else limGo l 0 []
/-- The beginnings so far are those of trees. -/
def BegOk (l : List LN) (bs : List Int) : Prop := ∀ j b, bs[j]? = some b → ∃ (o : Nat) (T : CT), b = (o : Int) ∧ T.good ∧ o + T.size = j + 1 ∧ SubL l o T
theorem lim_parse (l : List LN) (hk : ∀ x ∈ l, (x.kind = 0 ∧ okB ⟨x.lo, x.hi⟩ = true) ∨ x.kind = 4 ∨ x.kind = 5 ∨ x.kind = 6) : ∀ (suf pre : List LN) (bs : List Int), l = pre ++ suf → bs.length = pre.length → l ≠ [] → BegOk l bs → limGo suf (pre.length : Int) bs = true → ∃ T : CT, T.good ∧ l = T.flat 0
  | [], pre, bs, hl, hb, hne, hok, h => by
    rw [List.append_nil] at hl
    subst hl
    rw [limGo] at h
    have h0 := of_decide_eq_true h
    rcases List.eq_nil_or_concat bs with rfl | ⟨r, b, rfl⟩
    · simp at hb; exact absurd (List.eq_nil_of_length_eq_zero hb.symm) hne
    · rw [List.concat_eq_append] at *
      simp at h0
      subst h0
      obtain ⟨o, T, h1, h2, h3, h4⟩ := hok r.length 0 (by simp)
      obtain rfl : o = 0 := by omega
      refine ⟨T, h2, ?_⟩
      have hlen : l.length = T.size := by rw [List.length_append, List.length_singleton] at hb; omega
      apply List.ext_getElem?
      intro i
      by_cases hi : i < T.size
      · obtain ⟨x, hx⟩ : ∃ x, (T.flat 0)[i]? = some x := ⟨_, List.getElem?_eq_getElem (by rw [T.flat_length]; exact hi)⟩
        have := h4 i x hx
        rw [Nat.zero_add] at this
        rw [hx, this]
      · rw [List.getElem?_eq_none (by omega), List.getElem?_eq_none (by rw [T.flat_length]; omega)]
  | x :: t, pre, bs, hl, hb, hne, hok, h => by
    rw [limGo] at h
    split at h
    · rename_i hn
      have hxl : l[pre.length]? = some x := by rw [hl]; simp
      have hstep : ∀ nx, backL bs x.args.reverse (pre.length : Int) = some nx → BegOk l (bs ++ [nx]) := by
        intro nx hnx j b hj
        rw [List.getElem?_append] at hj
        split at hj
        · exact hok j b hj
        · rename_i hj1
          have hj2 := (List.getElem?_eq_some_iff.1 hj).1
          rw [List.length_singleton] at hj2
          obtain rfl : j = pre.length := by omega
          have : pre.length - bs.length = 0 := by omega
          rw [this] at hj
          simp at hj
          subst hj
          obtain ⟨k, lo, hi, tx, args⟩ := x
          rcases hk ⟨k, lo, hi, tx, args⟩ (by rw [hl]; simp) with ⟨hk0, hok0⟩ | hk0
          · simp only at hk0 hok0 hnx
            subst hk0
            have ha : args = [] ∧ tx = [] := by
              unfold nodeB at hn
              simp at hn
              exact ⟨hn.2, hn.1⟩
            obtain ⟨rfl, rfl⟩ := ha
            simp [backL] at hnx
            refine ⟨pre.length, .leaf lo hi, hnx.symm, hok0, rfl, fun i y hy => ?_⟩
            have h3 := (List.getElem?_eq_some_iff.1 hy).1
            rw [CT.flat, List.length_singleton] at h3
            obtain rfl : i = 0 := by omega
            cases hy
            rw [Nat.add_zero]; exact hxl
          · simp only at hk0 hnx
            have ha : lo = 0 ∧ hi = 0 ∧ tx = [] ∧ ∃ a0 a1, args = [a0, a1] := by
              unfold nodeB at hn
              have h2 : ∀ (l : List Int), l.length = 2 → ∃ a b, l = [a, b] := fun l hl => by
                match l, hl with
                | [a, b], _ => exact ⟨a, b, rfl⟩
              rcases hk0 with rfl | rfl | rfl <;> (simp at hn; obtain ⟨⟨⟨h3, h4⟩, h5⟩, h6⟩ := hn; exact ⟨h3, h4, h5, h2 _ h6⟩)
            obtain ⟨rfl, rfl, rfl, a0, a1, rfl⟩ := ha
            rw [show [a0, a1].reverse = [a1, a0] by rfl, backL] at hnx
            split at hnx
            · cases hnx
            · rename_i hc1
              rw [backL] at hnx
              split at hnx
              · cases hnx
              · rename_i hc2
                rw [backL] at hnx
                injection hnx with hnx
                have p1 : (pre.length : Int) ≠ 0 := fun h => hc1 (.inl h)
                have e1 : a1 = (pre.length : Int) - 1 := Classical.byContradiction fun h => hc1 (.inr h)
                obtain ⟨b1, hb1⟩ : ∃ b1, bs[pre.length - 1]? = some b1 := ⟨_, List.getElem?_eq_getElem (by omega)⟩
                have hg1 : bs.getD ((pre.length : Int) - 1).toNat 0 = b1 := by
                  rw [List.getD_eq_getElem?_getD, show ((pre.length : Int) - 1).toNat = pre.length - 1 by omega, hb1]; rfl
                rw [hg1] at hc2 hnx
                obtain ⟨o1, T1, rfl, g1, s1, u1⟩ := hok _ _ hb1
                have p2 : (o1 : Int) ≠ 0 := fun h => hc2 (.inl h)
                have e2 : a0 = (o1 : Int) - 1 := Classical.byContradiction fun h => hc2 (.inr h)
                have hT1 := T1.size_pos
                obtain ⟨b0, hb0⟩ : ∃ b0, bs[o1 - 1]? = some b0 := ⟨_, List.getElem?_eq_getElem (by omega)⟩
                have hg0 : bs.getD ((o1 : Int) - 1).toNat 0 = b0 := by
                  rw [List.getD_eq_getElem?_getD, show ((o1 : Int) - 1).toNat = o1 - 1 by omega, hb0]; rfl
                rw [hg0] at hnx
                subst hnx
                obtain ⟨o0, T0, rfl, g0, s0, u0⟩ := hok _ _ hb0
                have ho : o0 + T0.size = o1 := by omega
                subst ho
                refine ⟨o0, .node k T0 T1, rfl, ⟨hk0, g0, g1⟩, by rw [CT.size]; omega, fun i y hy => ?_⟩
                rcases CT.flat_cases hy with hy' | ⟨i', rfl, hy'⟩ | ⟨rfl, rfl⟩
                · exact u0 i y hy'
                · rw [← Nat.add_assoc]; exact u1 i' y hy'
                · rw [← Nat.add_assoc, show o0 + T0.size + T1.size = pre.length by omega, hxl, e1, e2]
      split at h
      · cases h
      · rename_i nx hnx
        have hb' : (bs ++ [nx]).length = (pre ++ [x]).length := by simp [hb]
        refine lim_parse l hk t (pre ++ [x]) (bs ++ [nx]) (by rw [hl]; simp) hb' hne (hstep nx hnx) ?_
        rw [List.length_append, List.length_singleton]
        rw [show ((pre.length + 1 : Nat) : Int) = (pre.length : Int) + 1 by omega]
        exact h
    · cases h
theorem lim_tree {l : List LN} (hne : l ≠ []) (hk : ∀ x ∈ l, (x.kind = 0 ∧ okB ⟨x.lo, x.hi⟩ = true) ∨ x.kind = 4 ∨ x.kind = 5 ∨ x.kind = 6) (h : isLimB l = true) : ∃ T : CT, T.good ∧ l = T.flat 0 := by
  unfold isLimB at h
  rw [if_neg (fun h => hne (List.eq_nil_of_length_eq_zero h))] at h
  split at h
  · cases h
  · exact lim_parse l hk l [] [] rfl rfl hne (fun j b h => by simp at h) h
end Go.Proofs.YtgdedcdjfljcnaaGreatDoor
namespace Go.Proofs.YtgdedcdjfljcnaaGreatDoor

theorem backL_args (bs : List Int) (hbs : ∀ (j : Nat) (b : Int), bs[j]? = some b → 0 ≤ b ∧ b ≤ (j : Int)) : ∀ (t : List Int) (nx r : Int), 0 ≤ nx → nx ≤ (bs.length : Int) → backL bs t nx = some r → (∀ a ∈ t, 0 ≤ a ∧ a < nx) ∧ 0 ≤ r ∧ r ≤ nx
  | [], nx, r, h0, _, h => by
    simp only [backL, Option.some.injEq] at h
    subst h
    exact ⟨fun a ha => by simp at ha, h0, Int.le_refl _⟩
  | a :: t, nx, r, h0, h1, h => by
    simp only [backL] at h
    split at h
    · cases h
    · rename_i hc
      have hn : nx ≠ 0 := fun e => hc (.inl e)
      have ha : a = nx - 1 := by
        by_cases e : a = nx - 1
        · exact e
        · exact absurd (.inr e) hc
      have hlt : (nx - 1).toNat < bs.length := by omega
      have hb := hbs _ _ (List.getElem?_eq_getElem hlt)
      have hg : bs.getD (nx - 1).toNat 0 = bs[(nx - 1).toNat] := by rw [List.getD_eq_getElem?_getD, List.getElem?_eq_getElem hlt]; rfl
      rw [hg] at h
      obtain ⟨q1, q2, q3⟩ := backL_args bs hbs t _ r hb.1 (by omega) h
      refine ⟨fun y hy => ?_, q2, by omega⟩
      rcases List.mem_cons.mp hy with rfl | hy
      · omega
      · have := q1 y hy
        omega
theorem limGo_args : ∀ (t : List LN) (bs : List Int), (∀ (j : Nat) (b : Int), bs[j]? = some b → 0 ≤ b ∧ b ≤ (j : Int)) → limGo t (bs.length : Int) bs = true → ∀ (k : Nat) (x : LN), t[k]? = some x → nodeB x = true ∧ ∀ a ∈ x.args, 0 ≤ a ∧ a < (bs.length : Int) + k
  | [], _, _, _, k, x, hx => by simp at hx
  | y :: t, bs, hbs, h, k, x, hx => by
    simp only [limGo] at h
    split at h
    · rename_i hn
      split at h
      · cases h
      · rename_i nx hnx
        obtain ⟨q1, q2, q3⟩ := backL_args bs hbs _ _ _ (by omega) (Int.le_refl _) hnx
        cases k with
        | zero =>
          simp only [List.getElem?_cons_zero, Option.some.injEq] at hx
          subst hx
          exact ⟨hn, fun a ha => by
            have := q1 a (List.mem_reverse.mpr ha)
            omega⟩
        | succ k =>
          simp only [List.getElem?_cons_succ] at hx
          have hl : ((bs ++ [nx]).length : Int) = (bs.length : Int) + 1 := by simp
          obtain ⟨p1, p2⟩ := limGo_args t (bs ++ [nx]) (fun j b hj => by
            by_cases hjl : j < bs.length
            · rw [List.getElem?_append_left hjl] at hj
              exact hbs j b hj
            · have hjl2 := (List.getElem?_eq_some_iff.mp hj).1
              simp at hjl2
              have : j = bs.length := by omega
              subst this
              rw [List.getElem?_concat_length] at hj
              cases hj
              exact ⟨q2, q3⟩) (by rw [hl]; exact h) k x hx
          refine ⟨p1, fun a ha => ?_⟩
          have := p2 a ha
          rw [hl] at this
          omega
    · cases h
/-- What isLimB says of each node. -/
theorem isLimB_args {l : List LN} (h : isLimB l = true) {k : Nat} {x : LN} (hx : l[k]? = some x) : l.length ≤ 20 ∧ nodeB x = true ∧ ∀ a ∈ x.args, 0 ≤ a ∧ a < (k : Int) := by
  have hk := (List.getElem?_eq_some_iff.mp hx).1
  unfold isLimB at h
  rw [if_neg (by omega)] at h
  split at h
  · cases h
  · rename_i h20
    obtain ⟨q1, q2⟩ := limGo_args l [] (fun j b hj => by simp at hj) h k x hx
    exact ⟨by omega, q1, fun a ha => by
      have := q2 a ha
      simpa using this⟩
/-- What a node may be asked about in a constraint of whole numbers. -/
def AbV (l : List LN) (v : Int) : Prop := (v = 0 ∨ v = 1 ∨ v = 5 ∨ v = 6) ∧ ((∀ x ∈ l, x.kind ≠ 2 ∧ x.kind ≠ 3) → v = 0 ∨ v = 1)
end Go.Proofs.YtgdedcdjfljcnaaGreatDoor
