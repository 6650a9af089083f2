/- Small facts on the bytes of strings, on lists and on the endings of calls. No program stands here. -/
import Derived.WalkKit
import Derived.Lib.Hide
import Derived.Laws.Rows
import Derived.Laws.OwnMore
import Derived.OwnWalk
import Derived.Lib.IndexMore
import Derived.Lib.IndexBytes
import Derived.WalkSpells
import Derived.Deep.Light
import Derived.BigQuiet
import Derived.IntWalk
import Derived.StillTailTactics
import Derived.Deep.QuietTactic
namespace Go.Proofs.YtgdedcdjfljcnaaGreatDoor
open Go.RowKit

theorem ret_bool {a b : Bool} (h : a = b) : Ending.returned (.bool a) = .returned (.bool b) := by rw [h]
theorem ret_int {k : IntKind} {a b : Int} (h : a = b) : Ending.returned (.int k a) = .returned (.int k b) := by rw [h]

theorem ret_int2 {j k : IntKind} {a b c d : Int} (h : a = b) (h2 : c = d) : Ending.returned (.tuple #[.int j a, .int k c]) = .returned (.tuple #[.int j b, .int k d]) := by rw [h, h2]
theorem ret_int3 {i j k : IntKind} {a b c d x y : Int} (h : a = b) (h2 : c = d) (h3 : x = y) : Ending.returned (.tuple #[.int i a, .int j c, .int k x]) = .returned (.tuple #[.int i b, .int j d, .int k y]) := by rw [h, h2, h3]
theorem ba_size (s : ByteArray) : s.size = s.data.toList.length := by rw [Array.length_toList]; rfl
theorem ba_len {s : ByteArray} {l : List UInt8} (h : s.data.toList = l) : s.size = l.length := by rw [ba_size, h]
theorem ba_get {s : ByteArray} {l : List UInt8} (h : s.data.toList = l) (k : Nat) (hk : k < s.size) : s[k] = l[k]'(by rw [← ba_len h]; exact hk) := by
  subst h; rfl
theorem ba_drop {s : ByteArray} {l : List UInt8} (h : s.data.toList = l) (a : Nat) : (s.extract a s.size).data.toList = l.drop a := by
  rw [Lib.extract_to_end, h]
theorem ba_cut {s : ByteArray} {l : List UInt8} (h : s.data.toList = l) (a b : Nat) : (s.extract a b).data.toList = (l.drop a).take (b - a) := by
  rw [Lib.extract_data, h]
theorem ba_take {s : ByteArray} {l : List UInt8} (h : s.data.toList = l) (b : Nat) : (s.extract 0 b).data.toList = l.take b := by
  rw [Lib.extract_data, h]; simp
theorem ba_at {s : ByteArray} {l : List UInt8} (h : s.data.toList = l) (k : Nat) {c : UInt8} {t : List UInt8} (hd : l.drop k = c :: t) : ∃ hk : k < s.size, s[k] = c ∧ l.drop (k + 1) = t := by
  have hk : k < l.length := by
    rcases Nat.lt_or_ge k l.length with h1 | h1
    · exact h1
    · rw [List.drop_eq_nil_of_le h1] at hd; cases hd
  rw [List.drop_eq_getElem_cons hk] at hd
  injection hd with h1 h2
  exact ⟨by rw [ba_len h]; exact hk, by rw [ba_get h]; exact h1, h2⟩
theorem ba_end {s : ByteArray} {l : List UInt8} (h : s.data.toList = l) (k : Nat) (hd : l.drop k = []) : s.size ≤ k := by
  rw [ba_len h]; exact List.drop_eq_nil_iff.1 hd
theorem ba_append (a b : ByteArray) : (a ++ b).data.toList = a.data.toList ++ b.data.toList := by
  rw [ByteArray.data_append, Array.toList_append]
theorem ba_blank : (ByteArray.mk #[32]).data.toList = [32] := rfl
theorem quiet_left {P : Program} {f : FuncId} {args : Array Value} {w : World} {n : Nat} {v : Value}
    (h : Calls P f args (w.drewN n) fun e w' => e = .returned v ∧ w.drewN n = w') : Calls P f args (w.drewN n) fun e w'' => e = .returned v ∧ ∃ m, w'' = w.drewN m :=
  h.mono fun _ _ ⟨he, hm⟩ => ⟨he, n, hm.symm⟩

/-- A call's frame: from world w0 to world w nothing below block B has turned. -/
def Fr (B : Nat) (w0 w : World) : Prop := B ≤ w0.heap.size ∧ Below B w0 w
theorem Fr.refl {B : Nat} {w : World} (h : B ≤ w.heap.size) : Fr B w w := ⟨h, Below.refl _ _⟩
theorem Fr.self (w : World) : Fr w.heap.size w w := ⟨Nat.le_refl _, Below.refl _ _⟩
theorem Fr.drewN {B : Nat} {w0 w : World} (h : Fr B w0 w) (n : Nat) : Fr B w0 (w.drewN n) := ⟨h.1, h.2.os, h.2.tape, h.2.output, h.2.size, h.2.block⟩
theorem Fr.drew {B : Nat} {w0 w : World} (h : Fr B w0 w) : Fr B w0 w.drew := ⟨h.1, h.2.drew⟩
theorem Fr.below {B : Nat} {w0 w w' : World} (h : Fr B w0 w) (hb : Below w.heap.size w w') : Fr B w0 w' := ⟨h.1, h.2.trans (hb.mono (Nat.le_trans h.1 h.2.size))⟩
theorem Fr.le {B : Nat} {w0 w : World} (h : Fr B w0 w) : B ≤ w.heap.size := Nat.le_trans h.1 h.2.size
theorem Fr.trans {B : Nat} {w0 w w' : World} (h : Fr B w0 w) (h' : Fr w.heap.size w w') : Fr B w0 w' := h.below h'.2
theorem Fr.alloc {B : Nat} {w0 w : World} (h : Fr B w0 w) (o : Obj) : Fr B w0 (w.alloc o) := ⟨h.1, h.2.alloc h.le o⟩
theorem Fr.setCell {B : Nat} {w0 w : World} (h : Fr B w0 w) {p : Addr} (hp : B ≤ p.block) (u : Value) : Fr B w0 (w.setCell p u) := ⟨h.1, h.2.setCell hp u⟩
theorem Fr.grown {B : Nat} {w0 w w' : World} {row : Option Nat} (h : Fr B w0 w) (hg : w.grownBy w' row) (hr : ∀ k, row = some k → B ≤ k) : Fr B w0 w' := ⟨h.1, h.2.grown hg h.le hr⟩
theorem Fr.cell {B : Nat} {w0 w : World} (h : Fr B w0 w) {p : Addr} (hp : p.block < B) : w.cell? p = w0.cell? p := h.2.cell hp
theorem Fr.frozen {B : Nat} {w0 w : World} (h : Fr B w0 w) {p : Addr} (hp : p.block < B) : w.frozen? p = w0.frozen? p := h.2.frozen hp
section
variable {P : Program} {f : FuncId} {args : Array Value} {w w0 : World} {v : Value} {B : Nat}
theorem carry (h : Calls P f args w fun e w' => e = .returned v ∧ Below w.heap.size w w') (hf : Fr B w0 w) : Calls P f args w fun e w' => e = .returned v ∧ Fr B w0 w' :=
  h.mono fun _ _ h => ⟨h.1, hf.below h.2⟩
theorem carryF (h : Calls P f args w fun e w' => e = .returned v ∧ Fr w.heap.size w w') (hf : Fr B w0 w) : Calls P f args w fun e w' => e = .returned v ∧ Fr B w0 w' :=
  h.mono fun _ _ h => ⟨h.1, hf.trans h.2⟩
theorem carryD (h : Calls P f args w fun e w' => e = .returned v ∧ ∃ n, w' = w.drewN n) (hf : Fr B w0 w) : Calls P f args w fun e w' => e = .returned v ∧ Fr B w0 w' :=
  h.mono fun _ _ ⟨he, n, hw⟩ => ⟨he, by rw [hw]; exact hf.drewN n⟩
end
theorem own_below {w w' : World} {base : Nat} {e : TypeId} {size n : Nat} {v : Value} {xs : List Value} (h : w.ownsRow base e size v n xs) (hb : Below w.heap.size w w') : w'.ownsRow base e size v n xs := by
  refine ⟨h.1, ?_⟩
  rcases h.2 with h | ⟨g, cap, cur, hv, hg, hh, hr⟩
  · exact .inl h
  · have hlt : g < w.heap.size := by
      rcases Nat.lt_or_ge g w.heap.size with h | h
      · exact h
      · rw [Array.getElem?_eq_none h] at hh; cases hh
    exact .inr ⟨g, cap, cur, hv, hg, (hb.block g hlt).trans hh, hr⟩
theorem own_lt {w : World} {base : Nat} {e : TypeId} {size n : Nat} {v : Value} {xs : List Value} (h : w.ownsRow base e size v n xs) {g : Nat} (hg : v.ownBlock = some g) : base ≤ g ∧ g < w.heap.size := by
  rcases h.2 with ⟨rfl, _⟩ | ⟨g', cap, cur, rfl, hb, hh, _⟩
  · cases hg
  · simp [Value.ownBlock] at hg
    subst hg
    refine ⟨hb, ?_⟩
    rcases Nat.lt_or_ge g' w.heap.size with h | h
    · exact h
    · rw [Array.getElem?_eq_none h] at hh; cases hh
theorem cell_new (w : World) (cs : Array Value) (t : TypeId) (j : Nat) : (w.alloc (.cells cs t)).cell? ⟨w.heap.size, j, none⟩ = cs[j]? :=
  cell_of_row _ w.heap.size j cs t (0, 0) (heap_alloc_new w _)
theorem add_at (g j : Nat) : Addr.add ⟨g, 0, none⟩ j = ⟨g, j, none⟩ := by
  unfold Addr.add
  by_cases hj : j = 0 <;> simp [hj]
theorem cells_new (w : World) (cs : Array Value) (t : TypeId) : ∀ (j : Nat) (u : Value), cs.toList[j]? = some u → (w.alloc (.cells cs t)).cell? (Addr.add ⟨w.heap.size, 0, none⟩ j) = some u := by
  intro j u h
  rw [add_at, cell_new]; simpa using h
theorem same_sym {P : Program} {f : FuncId} {args : Array Value} {w : World} {v : Value} (h : Calls P f args w fun e w' => e = .returned v ∧ w' = w) : Calls P f args w fun e w' => e = .returned v ∧ w = w' :=
  h.mono fun _ _ h => ⟨h.1, h.2.symm⟩
end Go.Proofs.YtgdedcdjfljcnaaGreatDoor
