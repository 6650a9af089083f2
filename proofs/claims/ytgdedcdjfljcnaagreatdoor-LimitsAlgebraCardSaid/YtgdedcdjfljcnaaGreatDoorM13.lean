/- A region that draws its order, within a round of a range over a function: what holds of it outside a round holds of it there, if it defers nothing. No program stands here. The nodes of a constraint from the last one to the first one: slices.Backward. What each node of a constraint is about: subjects. -/
import Derived.Deep.RegionHeld3
import Derived.RangeFuncBox
import Derived.RangeFuncNested
import Derived.RangeFuncBound
import Derived.RangeFuncCalls
import Derived.RangeFuncLeaves
import Derived.Shelf.Abstract
import Derived.Shelf.RegionOpen
import Derived.WalkKit
import Derived.OwnWalkIn
import Derived.TacticsInMore
import Derived.LoopNIn
import Derived.LoopIn
import Derived.Test.YtgdedcdjfljcnaaGreatDoorM12
namespace Go.Proofs.YtgdedcdjfljcnaaGreatDoor
open Go.RowKit

section
variable {P : Program} {ops : Array Oper} {Q : Exit → Act → World → Prop} {md : Region.Mode} {l n : Nat}
theorem lift_op {o : Oper} {a : Act} {w : World} {K : Act → World → Prop} (hd : ∀ c, o.op ≠ .defer c) (h : o.wp P a w K Q) : o.wpIn (Fence.wide.inRound l) n P a w K Q := by
  unfold Oper.wp at h
  unfold Oper.wpIn
  refine ⟨fun f _ => trivial, ?_⟩
  rw [Fence.inRound_round, Oper.semAt_some l _ _ hd]
  generalize (execOp a.eval o).run P w = r at *
  have hdep : (Fence.wide.inRound l).depth.isSome = true → 1 ≤ n := fun h => by simp [Fence.wide] at h
  cases r with
  | ok x w' =>
    cases x <;> simp only [Oper.upon, Oper.uponIn] at h ⊢
    all_goals first
      | exact h
      | exact ⟨hdep, CallsIn.inRound l (callsIn_wide.2 h)⟩
      | exact ⟨hdep, fun c cs _ => let ⟨v, w', r, s⟩ := h c cs; ⟨v, w', r, stepsIn_wide.2 s⟩⟩
  | halt x w' => cases x <;> simp only [Oper.upon, Oper.uponIn] at h ⊢ <;> exact h
theorem lift_any (hd : ∀ (i : Nat) o, ops[i]? = some o → ∀ c, o.op ≠ .defer c) (hL : ¬ LetsOut Q) : ∀ (fuel : Nat) (listed : Array Bool) (a : Act) (w : World), wpAny P md ops Q fuel listed a w → wpAnyIn (Fence.wide.inRound l) n P md ops Q fuel listed a w
  | 0, _, _, _, h => h
  | fuel + 1, listed, a, w, h => ⟨h.1, fun i hi => by
    have h2 := h.2 i hi
    unfold wpOp at h2
    unfold wpOpIn
    cases ho : ops[i]? with
    | none => rw [ho] at h2; exact lift_any hd hL fuel _ _ _ h2
    | some o =>
      rw [ho] at h2
      simp only at h2 ⊢
      split at h2
      · rename_i hw
        rw [if_pos hw]
        rcases h2 with h2 | ⟨-, h2⟩
        · exact Oper.wpIn_mono (fun a' w' h' => lift_any hd hL fuel _ _ _ h') (lift_op (hd i o ho) h2)
        · exact absurd h2 hL
      · rename_i hw
        rw [if_neg hw]
        exact ⟨fun f _ => trivial, lift_any hd hL fuel _ _ _ h2⟩⟩
/-- A region of whatever order, within a round. -/
theorem region_in {id : Nat} {a : Act} {w : World} {S : World → Prop} (hm : P.follows .mixedOrders = true) (hd : ops.all (fun o => match o.op with | .defer _ => false | _ => true) = true) (hL : ¬ LetsOut Q)
    (h : wpAnyH P .any ops Q S ops.size (Array.replicate ops.size false) a w.drew) : (Code.region id ops true).wpIn (Fence.wide.inRound l) n P Q a w := by
  refine wpIn_region_any hm (lift_any (fun i o ho c hc => ?_) hL _ _ _ _ (wpAny_of_held _ _ _ _ h))
  have := Array.all_eq_true_iff_forall_mem.1 hd o (Array.mem_of_getElem? ho)
  rw [hc] at this
  cases this
end
end Go.Proofs.YtgdedcdjfljcnaaGreatDoor
namespace Go.Proofs.YtgdedcdjfljcnaaGreatDoor
open Go.RowKit Go.Shelf
attribute [local go_sem] Oper.semAt_some

/-- A node with its index, and where its operands lie. -/
structure NX where
  i : Nat
  nd : LN
  A : Option Addr
  ca : Nat
/-- One of the nodes of a constraint of so many whose operands stand before it. -/
def GoodX (B : Nat) (w : World) (n : Nat) (x : NX) : Prop := x.i < n ∧ NodeRep B w x.nd x.A x.ca ∧ (∀ a ∈ x.nd.args, 0 ≤ a ∧ a < x.i) ∧ x.nd.args.length ≤ 20
abbrev GX (B : Nat) (w : World) (n : Nat) := { x : NX // GoodX B w n x }
def upF {α : Type} (f : Nat → α) (k : Nat) : List α := (List.range k).map f
theorem upF_succ {α : Type} (f : Nat → α) (k : Nat) : upF f (k + 1) = upF f k ++ [f k] := by unfold upF; rw [List.range_succ, List.map_append]; rfl
theorem upF_length {α : Type} (f : Nat → α) (k : Nat) : (upF f k).length = k := by unfold upF; simp
def encX {B : Nat} {w : World} {n : Nat} (x : GX B w n) : Array Value := #[.int .i64 (x.1.i : Int), .agg #[.int .i64 x.1.nd.kind, .int .i64 x.1.nd.lo, .int .i64 x.1.nd.hi, .string ⟨x.1.nd.text.toArray⟩, .slice x.1.A x.1.nd.args.length x.1.ca]]

/-- What a round keeps that ranges over a slice: what lay below a block, and the box of the slice. -/
structure KpB (n₀ Bs : Nat) (W W' : World) : Prop where
  below : Below n₀ W W'
  box : W'.cell? ⟨Bs, 0, none⟩ = W.cell? ⟨Bs, 0, none⟩
theorem KpB.refl (n₀ Bs : Nat) (W : World) : KpB n₀ Bs W W := ⟨Below.refl _ _, rfl⟩
theorem KpB.trans {n₀ Bs : Nat} {A B C : World} (h : KpB n₀ Bs A B) (k : KpB n₀ Bs B C) : KpB n₀ Bs A C := ⟨h.below.trans k.below, k.box.trans h.box⟩
theorem kpB_b {n₀ Bs : Nat} {w : World} (hn : n₀ ≤ w.heap.size) (hB : Bs < w.heap.size) (W : World) (l : Nat) (o o' : Obj) (hl : w.heap.size ≤ l) (h : W.heap[l]? = some o) (hc : o.isCells = false) (hw : o.isWalk = false) : KpB n₀ Bs W (W.putObj l o') :=
  ⟨belowK_b hn W l o o' hl h hc hw, World.cell?_of_block (World.putObj_heap_other (by show Bs ≠ l; omega))⟩
set_option maxRecDepth 100000 in
set_option maxHeartbeats 2000000 in
theorem back1_in {B : Nat} {w0 : World} {len : Nat} (n : Nat) (hn : 1 ≤ n) (l Bs n₀ b off cap : Nat) (f : Nat → GX B w0 len) (hf : ∀ k, k < len → (f k).1.i = len - 1 - k) (hb : b < n₀) (hlen : len ≤ 20) (J Jx : List (GX B w0 len) → World → Prop)
    (hY : ∀ pre x W, J pre W → pre.length < len → YieldAt Fence.wide (n - 1) Tryz.prog l (encX x) W fun e W' =>
      (e = .returned (.bool true) ∧ J (pre ++ [x]) W' ∧ KpB n₀ Bs W W') ∨ (e = .returned (.bool false) ∧ Jx (pre ++ [x]) W'))
    (W : World) (hBs : W.cell? ⟨Bs, 0, none⟩ = some (.slice (some ⟨b, off, none⟩) len cap))
    (hc : ∀ k, k < len → W.cell? ⟨b, off + (len - 1 - k) * 5, none⟩ = some (.int .i64 (f k).1.nd.kind) ∧ W.cell? ⟨b, off + (len - 1 - k) * 5 + 1, none⟩ = some (.int .i64 (f k).1.nd.lo) ∧ W.cell? ⟨b, off + (len - 1 - k) * 5 + 2, none⟩ = some (.int .i64 (f k).1.nd.hi) ∧
      W.cell? ⟨b, off + (len - 1 - k) * 5 + 3, none⟩ = some (.string ⟨(f k).1.nd.text.toArray⟩) ∧ W.cell? ⟨b, off + (len - 1 - k) * 5 + 4, none⟩ = some (.slice (f k).1.A (f k).1.nd.args.length (f k).1.ca)) (h0 : J [] W) :
    CallsIn Fence.wide n Tryz.prog 128 #[.func (.yield l) #[] #[], .pointer (some ⟨Bs, 0, none⟩)] W fun e W' => (∃ v, e = .returned v) ∧
      ((∃ ys, ys = upF f len ∧ J ys W') ∨ (∃ pre, (∃ k, k ≤ len ∧ pre = upF f k) ∧ Jx pre W')) := by
  have Hc := Lib.hid hc; have HY := Lib.hid hY; have Hf := Lib.hid hf
  clear hc hY hf
  refine callsIn_of_wp Tryz.func128 rfl trivial ?_ rfl
  simp only [Tryz.ntmps128, List.size_toArray, List.length_cons, List.length_nil, Nat.reduceAdd, Nat.reduceSub, Array.replicate_succ, Array.replicate_zero, List.push_toArray, List.append_toArray, List.nil_append, List.cons_append]
  gi_wp2
  gi_loopw [3] (fun i wr => ∃ (r : Nat) (z : Int), r ≤ len ∧ i = .int .i64 z ∧ z = (r : Int) - 1 ∧ J (upF f (len - r)) wr ∧ KpB n₀ Bs W wr) (fun i _ => (intOf i + 1).toNat)
  case atStart => exact ⟨len, (len : Int) - 1, Nat.le_refl _, rfl, rfl, by rw [Nat.sub_self]; exact h0, KpB.refl _ _ _⟩
  case round =>
    obtain ⟨r, z, hr, rfl, hz, hJs, hnx⟩ := hrel
    rcases r with _ | j
    · have hzn : z < 0 := by omega
      rw [Nat.sub_zero] at hJs
      have HJ := Lib.hid hJs
      clear hJs hz
      gi_wp2
      go_end0
      exact ⟨⟨_, rfl⟩, .inl ⟨_, rfl, HJ.out⟩⟩
    · obtain rfl : z = (j : Int) := by omega
      have hk : len - (j + 1) < len := by omega
      have hj : len - 1 - (len - (j + 1)) = j := by omega
      have hi := Hf.out _ hk
      obtain ⟨c0, c1, c2, c3, c4⟩ := Hc.out _ hk
      have hyy := HY.out (upF f (len - (j + 1))) (f (len - (j + 1))) wr hJs (by rw [upF_length]; exact hk)
      have hsu : upF f (len - (j + 1)) ++ [f (len - (j + 1))] = upF f (len - j) := by rw [← upF_succ]; congr 1; omega
      rw [hj] at c0 c1 c2 c3 c4 hi
      rw [hsu] at hyy
      unfold encX at hyy
      rw [hi] at hyy
      generalize f (len - (j + 1)) = x at *
      have d0 := (hnx.below.cell (p := ⟨b, off + j * 5, none⟩) hb).trans c0
      have d1 := (hnx.below.cell (p := ⟨b, off + j * 5 + 1, none⟩) hb).trans c1
      have d2 := (hnx.below.cell (p := ⟨b, off + j * 5 + 2, none⟩) hb).trans c2
      have d3 := (hnx.below.cell (p := ⟨b, off + j * 5 + 3, none⟩) hb).trans c3
      have d4 := (hnx.below.cell (p := ⟨b, off + j * 5 + 4, none⟩) hb).trans c4
      have dB := hnx.box.trans hBs
      obtain ⟨fn, tmps, assign, body, hy, hR⟩ := hyy
      have hj0 : (0 : Int) ≤ j := by omega
      have hj1 : (j : Int) < len := by omega
      have HR := Lib.hid hR
      have HJ := Lib.hid hJs
      clear c0 c1 c2 c3 c4 hi hj hsu hJs hR hz
      gi_wp2
      refine HR.out.mono ?_
      rintro e W3 (⟨rfl, hJ3, hk3⟩ | ⟨rfl, hJx3⟩)
      · have HJ3 := Lib.hid hJ3
        clear hJ3
        gi_wp2
        go_roundw
        case rel => exact ⟨j, (j : Int) - 1, by omega, rfl, rfl, HJ3.out, hnx.trans hk3⟩
        case measure => simp [intOf] <;> omega
      · have HJ3 := Lib.hid hJx3
        clear hJx3
        gi_wp2
        refine bodyPost_ret (results_none rfl _ _ _) rfl ?_
        exact ⟨⟨_, rfl⟩, .inr ⟨_, ⟨len - j, by omega, rfl⟩, HJ3.out⟩⟩
end Go.Proofs.YtgdedcdjfljcnaaGreatDoor
namespace Go.Proofs.YtgdedcdjfljcnaaGreatDoor
open Go.RowKit Go.Shelf
attribute [local go_sem] Oper.semAt_some

theorem Backward_in (F : Fence) (n : Nat) (hF : F.fn 96) (hro : F.round = none) (a : Option Addr) (len cap : Nat) (w : World) :
    CallsIn F n Tryz.prog 96 #[.slice a len cap] w fun e w' => e = .returned (.func (.func 128) #[] #[.pointer (some ⟨w.heap.size, 0, none⟩)]) ∧ w' = w.alloc (.cells #[.slice a len cap] 26) := by
  refine callsIn_of_wp Tryz.func96 rfl hF ?_ hro
  simp only [Tryz.ntmps96, List.size_toArray, List.length_cons, List.length_nil, Nat.reduceAdd, Nat.reduceSub, Array.replicate_succ, Array.replicate_zero, List.push_toArray, List.append_toArray, List.nil_append, List.cons_append]
  gi_wp2
  go_ret
  exact ⟨rfl, rfl⟩
theorem back1_nil_in (n : Nat) (l Bs : Nat) {α : Type} (J : List α → World → Prop) (W : World) (b : Option Addr) (cap : Nat) (hBs : W.cell? ⟨Bs, 0, none⟩ = some (.slice b 0 cap)) (h0 : J [] W) :
    CallsIn Fence.wide n Tryz.prog 128 #[.func (.yield l) #[] #[], .pointer (some ⟨Bs, 0, none⟩)] W fun e W' => (∃ v, e = .returned v) ∧ J [] W' := by
  refine callsIn_of_wp Tryz.func128 rfl trivial ?_ rfl
  simp only [Tryz.ntmps128, List.size_toArray, List.length_cons, List.length_nil, Nat.reduceAdd, Nat.reduceSub, Array.replicate_succ, Array.replicate_zero, List.push_toArray, List.append_toArray, List.nil_append, List.cons_append]
  gi_wp2
  gi_loopw [3] (fun i wr => i = .int .i64 (-1) ∧ J [] wr) (fun _ _ => 0)
  case atStart => exact ⟨rfl, h0⟩
  case round =>
    obtain ⟨rfl, hJs⟩ := hrel
    gi_wp2
    go_end0
    exact ⟨⟨_, rfl⟩, hJs⟩
/-- The nodes from the last one on: so many at most, as the law wants them. -/
theorem back_stops {B : Nat} {w0 : World} (l : List LN) (A : Option Addr) (cap : Nat) (n : Nat) (hn : 1 ≤ n) (Bs n₀ : Nat) (f : Nat → GX B w0 l.length) (hf : ∀ k, k < l.length → (f k).1.i = l.length - 1 - k) (hlen : l.length ≤ 20) (w : World)
    (hb : ∀ a, A = some a → l ≠ [] → a.block < n₀) (hBs : Bs < w.heap.size) (hn₀ : n₀ ≤ w.heap.size) (hc : w.cell? ⟨Bs, 0, none⟩ = some (.slice A l.length cap))
    (hN : l ≠ [] → ∃ b off, A = some ⟨b, off, none⟩ ∧ ∀ k, k < l.length → w.cell? ⟨b, off + (l.length - 1 - k) * 5, none⟩ = some (.int .i64 (f k).1.nd.kind) ∧ w.cell? ⟨b, off + (l.length - 1 - k) * 5 + 1, none⟩ = some (.int .i64 (f k).1.nd.lo) ∧ w.cell? ⟨b, off + (l.length - 1 - k) * 5 + 2, none⟩ = some (.int .i64 (f k).1.nd.hi) ∧
      w.cell? ⟨b, off + (l.length - 1 - k) * 5 + 3, none⟩ = some (.string ⟨(f k).1.nd.text.toArray⟩) ∧ w.cell? ⟨b, off + (l.length - 1 - k) * 5 + 4, none⟩ = some (.slice (f k).1.A (f k).1.nd.args.length (f k).1.ca)) :
    SeqStopsK Fence.wide n Tryz.prog 128 #[.pointer (some ⟨Bs, 0, none⟩)] (fun x : GX B w0 l.length => encX x) (KpB n₀ Bs) (fun ys => ys = upF f l.length) (fun pre => ∃ k, k ≤ l.length ∧ pre = upF f k) l.length w :=
  fun lp J Jx W hW _ _ hY h0 => by
    have hc' := (hW.cell (p := ⟨Bs, 0, none⟩) hBs).trans hc
    by_cases hl : l = []
    · subst hl
      exact (back1_nil_in n lp Bs J W A cap hc' h0).mono fun e W' ⟨he, hj⟩ => ⟨he, .inl ⟨_, rfl, hj⟩⟩
    · obtain ⟨b, off, rfl, hNc⟩ := hN hl
      have hb' : b < n₀ := hb _ rfl hl
      have hbw : b < w.heap.size := Nat.lt_of_lt_of_le hb' hn₀
      refine back1_in n hn lp Bs n₀ b off cap f hf hb' hlen J Jx hY W hc' (fun k hk => ?_) h0
      obtain ⟨c0, c1, c2, c3, c4⟩ := hNc k hk
      exact ⟨(hW.cell (p := ⟨b, _, none⟩) hbw).trans c0, (hW.cell (p := ⟨b, _, none⟩) hbw).trans c1, (hW.cell (p := ⟨b, _, none⟩) hbw).trans c2, (hW.cell (p := ⟨b, _, none⟩) hbw).trans c3, (hW.cell (p := ⟨b, _, none⟩) hbw).trans c4⟩
/-- The nodes of a constraint as the range meets them. -/
theorem nodes_back {B : Nat} {w : World} {l : List LN} {A : Option Addr} (h : LimAt B w A l) (hargs : ∀ (i : Nat) (x : LN), l[i]? = some x → (∀ a ∈ x.args, 0 ≤ a ∧ a < (i : Int)) ∧ x.args.length ≤ 20) (hl : l ≠ []) :
    ∃ f : Nat → GX B w l.length, (∀ k, k < l.length → (f k).1.i = l.length - 1 - k ∧ l[(f k).1.i]? = some (f k).1.nd) ∧ ∃ b off, A = some ⟨b, off, none⟩ ∧ b < B ∧ ∀ k, k < l.length → w.cell? ⟨b, off + (l.length - 1 - k) * 5, none⟩ = some (.int .i64 (f k).1.nd.kind) ∧ w.cell? ⟨b, off + (l.length - 1 - k) * 5 + 1, none⟩ = some (.int .i64 (f k).1.nd.lo) ∧ w.cell? ⟨b, off + (l.length - 1 - k) * 5 + 2, none⟩ = some (.int .i64 (f k).1.nd.hi) ∧
      w.cell? ⟨b, off + (l.length - 1 - k) * 5 + 3, none⟩ = some (.string ⟨(f k).1.nd.text.toArray⟩) ∧ w.cell? ⟨b, off + (l.length - 1 - k) * 5 + 4, none⟩ = some (.slice (f k).1.A (f k).1.nd.args.length (f k).1.ca) := by
  have hpos : 0 < l.length := by cases l <;> simp_all
  obtain ⟨b, off, rfl, hb⟩ := h.addr (List.getElem?_eq_getElem hpos)
  have key : ∀ i, i < l.length → ∃ x : GX B w l.length, x.1.i = i ∧ l[i]? = some x.1.nd ∧ w.cell? ⟨b, off + i * 5, none⟩ = some (.int .i64 x.1.nd.kind) ∧ w.cell? ⟨b, off + i * 5 + 1, none⟩ = some (.int .i64 x.1.nd.lo) ∧ w.cell? ⟨b, off + i * 5 + 2, none⟩ = some (.int .i64 x.1.nd.hi) ∧
      w.cell? ⟨b, off + i * 5 + 3, none⟩ = some (.string ⟨x.1.nd.text.toArray⟩) ∧ w.cell? ⟨b, off + i * 5 + 4, none⟩ = some (.slice x.1.A x.1.nd.args.length x.1.ca) := fun i hi => by
    have hx := List.getElem?_eq_getElem hi
    obtain ⟨-, A', ca, hr, c0, c1, c2, c3, c4⟩ := h.item hx
    exact ⟨⟨⟨i, l[i], A', ca⟩, hi, hr, (hargs i _ hx).1, (hargs i _ hx).2⟩, rfl, hx, c0, c1, c2, c3, c4⟩
  have x0 : GX B w l.length := Classical.choose (key 0 hpos)
  refine ⟨fun k => if hk : k < l.length then Classical.choose (key (l.length - 1 - k) (by omega)) else x0, fun k hk => ?_, b, off, rfl, hb, fun k hk => ?_⟩
  · simp only [dif_pos hk]
    have := Classical.choose_spec (key (l.length - 1 - k) (by omega))
    exact ⟨this.1, by rw [this.1]; exact this.2.1⟩
  · simp only [dif_pos hk]
    exact (Classical.choose_spec (key (l.length - 1 - k) (by omega))).2.2
end Go.Proofs.YtgdedcdjfljcnaaGreatDoor
