/- What joining two trees of whole numbers gives, in plain words: LimitsAlgebra's loop. -/
import Derived.Test.YtgdedcdjfljcnaaGreatDoorM45
import Derived.Test.YtgdedcdjfljcnaaGreatDoorM36
import Derived.Test.YtgdedcdjfljcnaaGreatDoorM16
namespace Go.Proofs.YtgdedcdjfljcnaaGreatDoor
open Go.RowKit

theorem over_args {kind : Int} {xs ys : List LN} {m : Nat} (hm : 2 ≤ m) (h1 : ∀ x ∈ xs, x.args.length ≤ m) (h2 : ∀ x ∈ ys, x.args.length ≤ m) : ∀ x ∈ overL kind xs ys, x.args.length ≤ m := fun x hx => by
  unfold overL shiftL at hx
  rcases List.mem_append.1 hx with hx | hx
  · obtain ⟨y, hy, rfl⟩ := List.mem_map.1 hx
    simpa using h1 y hy
  · rcases List.mem_append.1 hx with hx | hx
    · obtain ⟨y, hy, rfl⟩ := List.mem_map.1 hx
      simpa using h2 y hy
    · rw [List.mem_singleton] at hx
      subst hx
      exact hm
theorem over_nodes {kind : Int} {xs ys : List LN} (hk : InI kind) (h1 : ∀ x ∈ xs, NodeOk x) (h2 : ∀ x ∈ ys, NodeOk x) : ∀ x ∈ overL kind xs ys, NodeOk x := fun x hx => by
  unfold overL at hx
  rcases List.mem_append.1 hx with hx | hx
  · exact shift_ok h1 x hx
  · rcases List.mem_append.1 hx with hx | hx
    · exact shift_ok h2 x hx
    · rw [List.mem_singleton] at hx
      subst hx
      exact ⟨hk, by simp [InI], by simp [InI], Nat.zero_le _⟩
theorem over_len (kind : Int) (xs ys : List LN) : (overL kind xs ys).length = xs.length + ys.length + 1 := by
  unfold overL shiftL
  simp
  omega
theorem flat_vals {T : CT} (h : T.size ≤ 20) : ∀ x ∈ T.flat 0, ∀ a ∈ x.args, -1000000 ≤ a ∧ a ≤ 1000000 := fun x hx a ha => by
  obtain ⟨j, hj⟩ := List.getElem?_of_mem hx
  have h1 := T.flat_args 0 j x hj a ha
  have h2 := (List.getElem?_eq_some_iff.1 hj).1
  rw [T.flat_length] at h2
  omega
theorem over_gt {B : Nat} {w : World} {tags : List TG} {TA : Option Addr} {b off : Nat} {X Y : CT} {kind : Int} (hk : kind = 4 ∨ kind = 5 ∨ kind = 6) (hx : X.good) (hy : Y.good) (hxs : X.size ≤ 9) (hys : Y.size ≤ 9) (ht : TagAt B w TA tags) (hto : TagsOk tags) (hl : LimAt B w (some ⟨b, off, none⟩) (overL kind (X.flat 0) (Y.flat 0))) :
    GT B w tags TA b off (overL kind (X.flat 0) (Y.flat 0)) (.node kind X Y) :=
  ⟨ht, hto, hl, over_flat kind X Y, ⟨hk, hx, hy⟩, by show X.size + Y.size + 1 ≤ 20; omega⟩
theorem nums_few {X : CT} (hx : X.good) (hxs : X.size ≤ 9) : X.nums.length ≤ 5 := by
  have h1 := (X.nums_ok hx).2.2
  have h2 := X.size_leaves
  omega
theorem comb_few {op : Int} {X Y : CT} (hx : X.good) (hy : Y.good) (hxs : X.size ≤ 9) (hys : Y.size ≤ 9) : (combineL op X.nums Y.nums).length ≤ 10 := by
  have h1 := nums_few hx hxs
  have h2 := nums_few hy hys
  have h3 := (combine_ok op X.nums Y.nums (X.nums_ok hx).2.1 (Y.nums_ok hy).2.1).2.2.2
  omega
theorem comb_none {op : Int} (h : 0 ≤ op ∧ op ≤ 2) {X Y : CT} (hx : X.good) (hy : Y.good) (hxs : X.size ≤ 9) (hys : Y.size ≤ 9) : combE op X.nums Y.nums = 0 := by
  have h1 := nums_few hx hxs
  have h2 := nums_few hy hys
  have h3 := comb_few (op := op) hx hy hxs hys
  obtain ⟨x1, x2, -⟩ := X.nums_ok hx
  obtain ⟨y1, y2, -⟩ := Y.nums_ok hy
  have e1 := canon_err x1 x2 (by omega)
  have e2 := canon_err y1 y2 (by omega)
  have e : combErr op X.nums Y.nums = 0 := by
    unfold combErr
    rw [if_neg (by omega), e1, e2, if_neg (by simp)]
  unfold combE
  rw [e, if_neg (by simp), if_neg (by omega)]
theorem comb_in (op n : Int) {X Y : CT} (hx : X.good) (hy : Y.good) : inB (combineL op X.nums Y.nums) n = isInB op (inB X.nums n) (inB Y.nums n) :=
  (combine_ok op X.nums Y.nums (X.nums_ok hx).2.1 (Y.nums_ok hy).2.1).2.2.1 n
theorem node_nums (X Y : CT) : (CT.node 4 X Y).nums = combineL 0 X.nums Y.nums ∧ (CT.node 5 X Y).nums = combineL 1 X.nums Y.nums ∧ (CT.node 6 X Y).nums = combineL 2 X.nums Y.nums := ⟨rfl, rfl, rfl⟩
/-- A type of the call's own, its cells being these. -/
def NewT (g : Nat) (cs : Array Value) (w : World) : Prop := w.heap[g]? = some (.cells cs 28 (0, 0))
theorem NewT.lt {g : Nat} {cs : Array Value} {w : World} (h : NewT g cs w) : g < w.heap.size := (Array.getElem?_eq_some_iff.1 h).1
theorem NewT.keep {g : Nat} {cs : Array Value} {w w' : World} (h : NewT g cs w) (hf : Fr w.heap.size w w') : NewT g cs w' := (hf.2.block g h.lt).trans h
theorem NewT.cell {g : Nat} {cs : Array Value} {w : World} (h : NewT g cs w) (k : Nat) : w.cell? ⟨g, k, none⟩ = cs[k]? := by
  unfold NewT at h
  simp [World.cell?, h]
theorem NewT.frozen {g : Nat} {cs : Array Value} {w : World} (h : NewT g cs w) (k : Nat) : w.frozen? ⟨g, k, none⟩ = false := by
  unfold NewT at h
  simp [World.frozen?, h]
theorem NewT.set {g : Nat} {cs : Array Value} {w : World} (h : NewT g cs w) (v : Value) : NewT g (cs.setIfInBounds 7 v) (w.setCell ⟨g, 7, none⟩ v) := blk_set h 7 v
theorem NewT.stay {g : Nat} {w : World} {B : Nat} (v : Value) (hB : g < B) : Stay (fun b => B ≤ b ∧ b < w.heap.size) w (w.setCell ⟨g, 7, none⟩ v) := fun b hb => Below.heap_setCell _ _ _ _ (by have := hb.1; show b ≠ g; omega)
theorem set_size (w : World) (a : Addr) (v : Value) : (w.setCell a v).heap.size = w.heap.size := by simp [World.setCell]
theorem cell_two (w : World) (O : Obj) (cs : Array Value) (t : TypeId) (k : Nat) : ((w.alloc O).alloc (.cells cs t)).cell? ⟨w.heap.size + 1, k, none⟩ = cs[k]? := by
  have := cell_new (w.alloc O) cs t k
  rwa [World.size_alloc] at this
theorem new_two (w : World) (cs : Array Value) (O : Obj) : NewT w.heap.size cs ((w.alloc (.cells cs 28)).alloc O) := (Below.heap_alloc _ _ _ (by simp)).trans (heap_alloc_new w _)
end Go.Proofs.YtgdedcdjfljcnaaGreatDoor
