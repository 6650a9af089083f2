/- The nodes of a constraint from the last one to the first one: slices.Backward. -/
import Derived.Test.YtoelifebmhlokaaGreatDoorSLift
namespace Go.Proofs.YtoelifebmhlokaaGreatDoor
open Go.RowKit Go.Shelf
attribute [local go_sem] Oper.semAt_some

/-- A node with its index, and where its operands lie. -/
structure NX where
  i : Nat
  nd : LN
  A : Option Addr
  ca : Nat
/-- One of the nodes of a constraint of so many whose operands stand before it. -/
def GoodX (B : Nat) (w : World) (n : Nat) (x : NX) : Prop := x.i < n ∧ NodeRep B w x.nd x.A x.ca ∧ (∀ a ∈ x.nd.args, 0 ≤ a ∧ a < x.i) ∧ x.nd.args.length ≤ 20
abbrev GX (B : Nat) (w : World) (n : Nat) := { x : NX // GoodX B w n x }
def upF {α : Type} (f : Nat → α) (k : Nat) : List α := (List.range k).map f
theorem upF_succ {α : Type} (f : Nat → α) (k : Nat) : upF f (k + 1) = upF f k ++ [f k] := by unfold upF; rw [List.range_succ, List.map_append]; rfl
theorem upF_length {α : Type} (f : Nat → α) (k : Nat) : (upF f k).length = k := by unfold upF; simp
def encX {B : Nat} {w : World} {n : Nat} (x : GX B w n) : Array Value := #[.int .i64 (x.1.i : Int), .agg #[.int .i64 x.1.nd.kind, .int .i64 x.1.nd.lo, .int .i64 x.1.nd.hi, .string ⟨x.1.nd.text.toArray⟩, .slice x.1.A x.1.nd.args.length x.1.ca]]

/-- What a round keeps that ranges over a slice: what lay below a block, and the box of the slice. -/
structure KpB (n₀ Bs : Nat) (W W' : World) : Prop where
  below : Below n₀ W W'
  box : W'.cell? ⟨Bs, 0, none⟩ = W.cell? ⟨Bs, 0, none⟩
theorem KpB.refl (n₀ Bs : Nat) (W : World) : KpB n₀ Bs W W := ⟨Below.refl _ _, rfl⟩
theorem KpB.trans {n₀ Bs : Nat} {A B C : World} (h : KpB n₀ Bs A B) (k : KpB n₀ Bs B C) : KpB n₀ Bs A C := ⟨h.below.trans k.below, k.box.trans h.box⟩
theorem kpB_b {n₀ Bs : Nat} {w : World} (hn : n₀ ≤ w.heap.size) (hB : Bs < w.heap.size) (W : World) (l : Nat) (o o' : Obj) (hl : w.heap.size ≤ l) (h : W.heap[l]? = some o) (hc : o.isCells = false) (hw : o.isWalk = false) : KpB n₀ Bs W (W.putObj l o') :=
  ⟨belowK_b hn W l o o' hl h hc hw, World.cell?_of_block (World.putObj_heap_other (by show Bs ≠ l; omega))⟩
set_option maxRecDepth 100000 in
set_option maxHeartbeats 2000000 in
theorem back1_in {B : Nat} {w0 : World} {len : Nat} (n : Nat) (hn : 1 ≤ n) (l Bs n₀ b off cap : Nat) (f : Nat → GX B w0 len) (hf : ∀ k, k < len → (f k).1.i = len - 1 - k) (hb : b < n₀) (hlen : len ≤ 20) (J Jx : List (GX B w0 len) → World → Prop)
    (hY : ∀ pre x W, J pre W → pre.length < len → YieldAt Fence.wide (n - 1) Tryz.prog l (encX x) W fun e W' =>
      (e = .returned (.bool true) ∧ J (pre ++ [x]) W' ∧ KpB n₀ Bs W W') ∨ (e = .returned (.bool false) ∧ Jx (pre ++ [x]) W'))
    (W : World) (hBs : W.cell? ⟨Bs, 0, none⟩ = some (.slice (some ⟨b, off, none⟩) len cap))
    (hc : ∀ k, k < len → W.cell? ⟨b, off + (len - 1 - k) * 5, none⟩ = some (.int .i64 (f k).1.nd.kind) ∧ W.cell? ⟨b, off + (len - 1 - k) * 5 + 1, none⟩ = some (.int .i64 (f k).1.nd.lo) ∧ W.cell? ⟨b, off + (len - 1 - k) * 5 + 2, none⟩ = some (.int .i64 (f k).1.nd.hi) ∧
      W.cell? ⟨b, off + (len - 1 - k) * 5 + 3, none⟩ = some (.string ⟨(f k).1.nd.text.toArray⟩) ∧ W.cell? ⟨b, off + (len - 1 - k) * 5 + 4, none⟩ = some (.slice (f k).1.A (f k).1.nd.args.length (f k).1.ca)) (h0 : J [] W) :
    CallsIn Fence.wide n Tryz.prog 105 #[.func (.yield l) #[] #[], .pointer (some ⟨Bs, 0, none⟩)] W fun e W' => (∃ v, e = .returned v) ∧
      ((∃ ys, ys = upF f len ∧ J ys W') ∨ (∃ pre, (∃ k, k ≤ len ∧ pre = upF f k) ∧ Jx pre W')) := by
  have Hc := Lib.hid hc; have HY := Lib.hid hY; have Hf := Lib.hid hf
  clear hc hY hf
  refine callsIn_of_wp Tryz.func105 rfl trivial ?_ rfl
  simp only [Tryz.ntmps105, List.size_toArray, List.length_cons, List.length_nil, Nat.reduceAdd, Nat.reduceSub, Array.replicate_succ, Array.replicate_zero, List.push_toArray, List.append_toArray, List.nil_append, List.cons_append]
  gi_wp2
  gi_loopw [3] (fun i wr => ∃ (r : Nat) (z : Int), r ≤ len ∧ i = .int .i64 z ∧ z = (r : Int) - 1 ∧ J (upF f (len - r)) wr ∧ KpB n₀ Bs W wr) (fun i _ => (intOf i + 1).toNat)
  case atStart => exact ⟨len, (len : Int) - 1, Nat.le_refl _, rfl, rfl, by rw [Nat.sub_self]; exact h0, KpB.refl _ _ _⟩
  case round =>
    obtain ⟨r, z, hr, rfl, hz, hJs, hnx⟩ := hrel
    rcases r with _ | j
    · have hzn : z < 0 := by omega
      rw [Nat.sub_zero] at hJs
      have HJ := Lib.hid hJs
      clear hJs hz
      gi_wp2
      go_end0
      exact ⟨⟨_, rfl⟩, .inl ⟨_, rfl, HJ.out⟩⟩
    · obtain rfl : z = (j : Int) := by omega
      have hk : len - (j + 1) < len := by omega
      have hj : len - 1 - (len - (j + 1)) = j := by omega
      have hi := Hf.out _ hk
      obtain ⟨c0, c1, c2, c3, c4⟩ := Hc.out _ hk
      have hyy := HY.out (upF f (len - (j + 1))) (f (len - (j + 1))) wr hJs (by rw [upF_length]; exact hk)
      have hsu : upF f (len - (j + 1)) ++ [f (len - (j + 1))] = upF f (len - j) := by rw [← upF_succ]; congr 1; omega
      rw [hj] at c0 c1 c2 c3 c4 hi
      rw [hsu] at hyy
      unfold encX at hyy
      rw [hi] at hyy
      generalize f (len - (j + 1)) = x at *
      have d0 := (hnx.below.cell (p := ⟨b, off + j * 5, none⟩) hb).trans c0
      have d1 := (hnx.below.cell (p := ⟨b, off + j * 5 + 1, none⟩) hb).trans c1
      have d2 := (hnx.below.cell (p := ⟨b, off + j * 5 + 2, none⟩) hb).trans c2
      have d3 := (hnx.below.cell (p := ⟨b, off + j * 5 + 3, none⟩) hb).trans c3
      have d4 := (hnx.below.cell (p := ⟨b, off + j * 5 + 4, none⟩) hb).trans c4
      have dB := hnx.box.trans hBs
      obtain ⟨fn, tmps, assign, body, hy, hR⟩ := hyy
      have hj0 : (0 : Int) ≤ j := by omega
      have hj1 : (j : Int) < len := by omega
      have HR := Lib.hid hR
      have HJ := Lib.hid hJs
      clear c0 c1 c2 c3 c4 hi hj hsu hJs hR hz
      gi_wp2
      refine HR.out.mono ?_
      rintro e W3 (⟨rfl, hJ3, hk3⟩ | ⟨rfl, hJx3⟩)
      · have HJ3 := Lib.hid hJ3
        clear hJ3
        gi_wp2
        go_roundw
        case rel => exact ⟨j, (j : Int) - 1, by omega, rfl, rfl, HJ3.out, hnx.trans hk3⟩
        case measure => simp [intOf] <;> omega
      · have HJ3 := Lib.hid hJx3
        clear hJx3
        gi_wp2
        refine bodyPost_ret (results_none rfl _ _ _) rfl ?_
        exact ⟨⟨_, rfl⟩, .inr ⟨_, ⟨len - j, by omega, rfl⟩, HJ3.out⟩⟩
end Go.Proofs.YtoelifebmhlokaaGreatDoor
