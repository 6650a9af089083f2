/- Whatever a call is handed as a type is a tree. Contracts on counting: how many values are within one another, and how deep. How many types and values are within one another: the plain functions of Sizer.Type. -/
import Derived.Test.YtgdedcdjfljcnaaGreatDoorM02
import Derived.WalkKit
import Derived.Lib.Hide
import Derived.StillTailTactics
namespace Go.Proofs.YtgdedcdjfljcnaaGreatDoor
open Go.RowKit

section
variable {H : Type} {enc : TypeId × Value → H} {W : World}
theorem ba_back (b : ByteArray) : (ByteArray.mk b.data.toList.toArray) = b := by cases b; simp
set_option maxRecDepth 100000 in
theorem open_tag {fuel : Nat} {cs : List Value} {x : DataW H × List MemPlace} (h : DataW.trod enc Tryz.prog W 0 (fun _ => true) true fuel 168 cs = some x) : ∃ t : TG, cs = t.cells ∧ t.ok := by
  have q : Tryz.prog.cellsOf 168 = 3 := by kernel_rfl
  obtain ⟨xs, n, -, -, hl, hlen, hf⟩ := DataW.trod_struct Tryz.underlying168 h
  rw [q] at hl
  obtain ⟨c0, c1, c2, rfl⟩ : ∃ c0 c1 c2, cs = [c0, c1, c2] := by
    match cs, hl with
    | [c0, c1, c2], _ => exact ⟨c0, c1, c2, rfl⟩
  obtain ⟨y0, y1, y2, rfl⟩ : ∃ y0 y1 y2, xs = [y0, y1, y2] := by
    match xs, hlen with
    | [y0, y1, y2], _ => exact ⟨y0, y1, y2, rfl⟩
  have t0 : DataW.trod enc Tryz.prog W 0 (fun _ => true) true n 3 [c0] = some y0 := hf 0 _ rfl
  have t1 : DataW.trod enc Tryz.prog W 0 (fun _ => true) true n 3 [c1] = some y1 := hf 1 _ rfl
  have t2 : DataW.trod enc Tryz.prog W 0 (fun _ => true) true n 3 [c2] = some y2 := hf 2 _ rfl
  obtain ⟨a, e0, -, w0⟩ := DataW.trod_int Tryz.underlying3 t0
  obtain ⟨b, e1, -, w1⟩ := DataW.trod_int Tryz.underlying3 t1
  obtain ⟨c, e2, -, w2⟩ := DataW.trod_int Tryz.underlying3 t2
  injection e0 with e0; injection e1 with e1; injection e2 with e2
  subst e0; subst e1; subst e2
  exact ⟨⟨a, b, c⟩, rfl, int_in w0, int_in w1, int_in w2⟩
set_option maxRecDepth 100000 in
theorem open_ints {fuel : Nat} {c : Value} {x : DataW H × List MemPlace} (h : DataW.trod enc Tryz.prog W 0 (fun _ => true) true fuel 64 [c] = some x) :
    ∃ (A : Option Addr) (cap : Nat) (l : List Int), c = .slice A l.length cap ∧ SliceOk A l.length cap ∧ (∀ a ∈ l, InI a) ∧ RowsS (fun b => b < W.heap.size) W 1 A l.length (itemCells (fun a => [.int .i64 a]) l) := by
  have q : Tryz.prog.cellsOf 3 = 1 := by kernel_rfl
  obtain ⟨A, cap, l, C, hc, hok, hR, hrows⟩ := open_rows Tryz.underlying64 q (by decide) h (fun (a : Int) cs => cs = [.int .i64 a] ∧ InI a) (fun a cs h => by rw [h.1]; rfl)
    (fun fuel' _ cs' x' ht => by
      obtain ⟨a, e0, -, w0⟩ := DataW.trod_int Tryz.underlying3 ht
      exact ⟨a, e0, int_in w0⟩)
  refine ⟨A, cap, l, hc, hok, fun a ha => ?_, ?_⟩
  · obtain ⟨i, hi⟩ := List.mem_iff_getElem?.1 ha
    exact (hR i a hi).2
  · rcases hrows with h0 | ⟨b, off, h1, h2, h3⟩
    · exact .inl h0
    · refine .inr ⟨b, off, h1, h2, fun i hi j u hu => h3 i hi j u ?_⟩
      obtain ⟨a, ha⟩ : ∃ a, l[i]? = some a := ⟨_, List.getElem?_eq_getElem hi⟩
      rw [(hR i a ha).1]
      unfold itemCells at hu
      rw [ha] at hu
      exact hu
set_option maxRecDepth 100000 in
theorem open_node {fuel : Nat} {cs : List Value} {x : DataW H × List MemPlace} (h : DataW.trod enc Tryz.prog W 0 (fun _ => true) true fuel 66 cs = some x) : ∃ t : LN, NodeS (fun b => b < W.heap.size) W t cs := by
  have q : Tryz.prog.cellsOf 66 = 5 := by kernel_rfl
  obtain ⟨xs, n, -, -, hl, hlen, hf⟩ := DataW.trod_struct Tryz.underlying66 h
  rw [q] at hl
  obtain ⟨c0, c1, c2, c3, c4, rfl⟩ : ∃ c0 c1 c2 c3 c4, cs = [c0, c1, c2, c3, c4] := by
    match cs, hl with
    | [c0, c1, c2, c3, c4], _ => exact ⟨c0, c1, c2, c3, c4, rfl⟩
  obtain ⟨y0, y1, y2, y3, y4, rfl⟩ : ∃ y0 y1 y2 y3 y4, xs = [y0, y1, y2, y3, y4] := by
    match xs, hlen with
    | [y0, y1, y2, y3, y4], _ => exact ⟨y0, y1, y2, y3, y4, rfl⟩
  have t0 : DataW.trod enc Tryz.prog W 0 (fun _ => true) true n 3 [c0] = some y0 := hf 0 _ rfl
  have t1 : DataW.trod enc Tryz.prog W 0 (fun _ => true) true n 3 [c1] = some y1 := hf 1 _ rfl
  have t2 : DataW.trod enc Tryz.prog W 0 (fun _ => true) true n 3 [c2] = some y2 := hf 2 _ rfl
  have t3 : DataW.trod enc Tryz.prog W 0 (fun _ => true) true n 9 [c3] = some y3 := hf 3 _ rfl
  have t4 : DataW.trod enc Tryz.prog W 0 (fun _ => true) true n 64 [c4] = some y4 := hf 4 _ rfl
  obtain ⟨a, e0, -, w0⟩ := DataW.trod_int Tryz.underlying3 t0
  obtain ⟨b, e1, -, w1⟩ := DataW.trod_int Tryz.underlying3 t1
  obtain ⟨c, e2, -, w2⟩ := DataW.trod_int Tryz.underlying3 t2
  obtain ⟨s, e3, -, w3⟩ := DataW.trod_string Tryz.underlying9 t3
  injection e0 with e0; injection e1 with e1; injection e2 with e2; injection e3 with e3
  subst e0; subst e1; subst e2; subst e3
  obtain ⟨A, cap, l, rfl, hok, hl2, hrows⟩ := open_ints t4
  exact ⟨⟨a, b, c, s.data.toList, l⟩, A, cap, by simp only [ba_back], hok, hrows, ⟨int_in w0, int_in w1, int_in w2, by rw [← ba_size]; exact w3⟩, hl2⟩
set_option maxRecDepth 100000 in
/-- A field is its own parts, and a type's cells. -/
theorem open_field {fuel : Nat} {cs : List Value} {x : DataW H × List MemPlace} (h : DataW.trod enc Tryz.prog W 0 (fun _ => true) true fuel 71 cs = some x) (ih : ∀ m, m < fuel → ∀ cs' x', DataW.trod enc Tryz.prog W 0 (fun _ => true) true m 28 cs' = some x' → ∃ t, RepTy W.heap.size W t cs') :
    ∃ p : FD × TyT × List Value, RepTy W.heap.size W p.2.1 p.2.2 ∧ FieldS (fun b => b < W.heap.size) W p.1 p.2.2 cs := by
  have q : Tryz.prog.cellsOf 71 = 13 := by kernel_rfl
  obtain ⟨xs, n, rfl, -, hl, hlen, hf⟩ := DataW.trod_struct Tryz.underlying71 h
  rw [q] at hl
  obtain ⟨c0, c1, d0, d1, d2, d3, d4, d5, d6, d7, c3, c4, c5, rfl⟩ : ∃ c0 c1 d0 d1 d2 d3 d4 d5 d6 d7 c3 c4 c5, cs = [c0, c1, d0, d1, d2, d3, d4, d5, d6, d7, c3, c4, c5] := by
    match cs, hl with
    | [c0, c1, d0, d1, d2, d3, d4, d5, d6, d7, c3, c4, c5], _ => exact ⟨c0, c1, d0, d1, d2, d3, d4, d5, d6, d7, c3, c4, c5, rfl⟩
  obtain ⟨y0, y1, y2, y3, y4, y5, rfl⟩ : ∃ y0 y1 y2 y3 y4 y5, xs = [y0, y1, y2, y3, y4, y5] := by
    match xs, hlen with
    | [y0, y1, y2, y3, y4, y5], _ => exact ⟨y0, y1, y2, y3, y4, y5, rfl⟩
  have q8 : Tryz.prog.cellsOf 28 = 8 := by kernel_rfl
  have t0 : DataW.trod enc Tryz.prog W 0 (fun _ => true) true n 9 [c0] = some y0 := hf 0 _ rfl
  have t1 : DataW.trod enc Tryz.prog W 0 (fun _ => true) true n 3 [c1] = some y1 := hf 1 _ rfl
  have t2 : DataW.trod enc Tryz.prog W 0 (fun _ => true) true n 28 (([c0, c1, d0, d1, d2, d3, d4, d5, d6, d7, c3, c4, c5].drop 2).take (Tryz.prog.cellsOf 28)) = some y2 := hf 2 _ rfl
  rw [q8] at t2
  have t3 : DataW.trod enc Tryz.prog W 0 (fun _ => true) true n 3 [c3] = some y3 := hf 3 _ rfl
  have t4 : DataW.trod enc Tryz.prog W 0 (fun _ => true) true n 42 [c4] = some y4 := hf 4 _ rfl
  have t5 : DataW.trod enc Tryz.prog W 0 (fun _ => true) true n 3 [c5] = some y5 := hf 5 _ rfl
  obtain ⟨s, e0, -, w0⟩ := DataW.trod_string Tryz.underlying9 t0
  obtain ⟨b, e1, -, w1⟩ := DataW.trod_int Tryz.underlying3 t1
  obtain ⟨c, e3, -, w3⟩ := DataW.trod_int Tryz.underlying3 t3
  obtain ⟨e, e5, -, w5⟩ := DataW.trod_int Tryz.underlying3 t5
  injection e0 with e0; injection e1 with e1; injection e3 with e3; injection e5 with e5
  subst e0; subst e1; subst e3; subst e5
  obtain ⟨t, ht⟩ := ih n (Nat.lt_succ_self _) _ _ t2
  obtain ⟨D, cd, l, CV, rfl, hok, hR, hrows⟩ := open_rows Tryz.underlying42 (show Tryz.prog.cellsOf 44 = 6 by kernel_rfl) (by decide) t4 (fun (v : VT) cs => Rep W.heap.size W v cs) (fun a cs h => h.six)
    (fun fuel' _ cs' x' ht => open_val fuel' cs' x' ht)
  exact ⟨(⟨s.data.toList, b, c, l, e⟩, t, [d0, d1, d2, d3, d4, d5, d6, d7]), ht, D, cd, CV, by simp only [ba_back]; rfl, hok, hrows, hR, by rw [← ba_size]; exact w0, int_in w1, int_in w3, int_in w5⟩
set_option maxRecDepth 100000 in
theorem open_type : ∀ (fuel : Nat) (cs : List Value) (x : DataW H × List MemPlace), DataW.trod enc Tryz.prog W 0 (fun _ => true) true fuel 28 cs = some x → ∃ t, RepTy W.heap.size W t cs := by
  intro fuel
  induction fuel using Nat.strongRecOn with
  | _ fuel ih =>
  intro cs x h
  have q : Tryz.prog.cellsOf 28 = 8 := by kernel_rfl
  obtain ⟨xs, n, rfl, -, hl, hlen, hf⟩ := DataW.trod_struct Tryz.underlying28 h
  rw [q] at hl
  obtain ⟨c0, c1, c2, c3, c4, c5, c6, c7, rfl⟩ : ∃ c0 c1 c2 c3 c4 c5 c6 c7, cs = [c0, c1, c2, c3, c4, c5, c6, c7] := by
    match cs, hl with
    | [c0, c1, c2, c3, c4, c5, c6, c7], _ => exact ⟨c0, c1, c2, c3, c4, c5, c6, c7, rfl⟩
  obtain ⟨y0, y1, y2, y3, y4, y5, y6, y7, rfl⟩ : ∃ y0 y1 y2 y3 y4 y5 y6 y7, xs = [y0, y1, y2, y3, y4, y5, y6, y7] := by
    match xs, hlen with
    | [y0, y1, y2, y3, y4, y5, y6, y7], _ => exact ⟨y0, y1, y2, y3, y4, y5, y6, y7, rfl⟩
  have t0 : DataW.trod enc Tryz.prog W 0 (fun _ => true) true n 3 [c0] = some y0 := hf 0 _ rfl
  have t1 : DataW.trod enc Tryz.prog W 0 (fun _ => true) true n 9 [c1] = some y1 := hf 1 _ rfl
  have t2 : DataW.trod enc Tryz.prog W 0 (fun _ => true) true n 22 [c2] = some y2 := hf 2 _ rfl
  have t3 : DataW.trod enc Tryz.prog W 0 (fun _ => true) true n 23 [c3] = some y3 := hf 3 _ rfl
  have t4 : DataW.trod enc Tryz.prog W 0 (fun _ => true) true n 4 [c4] = some y4 := hf 4 _ rfl
  have t5 : DataW.trod enc Tryz.prog W 0 (fun _ => true) true n 3 [c5] = some y5 := hf 5 _ rfl
  have t6 : DataW.trod enc Tryz.prog W 0 (fun _ => true) true n 24 [c6] = some y6 := hf 6 _ rfl
  have t7 : DataW.trod enc Tryz.prog W 0 (fun _ => true) true n 26 [c7] = some y7 := hf 7 _ rfl
  obtain ⟨k, e0, -, w0⟩ := DataW.trod_int Tryz.underlying3 t0
  obtain ⟨s, e1, -, w1⟩ := DataW.trod_string Tryz.underlying9 t1
  obtain ⟨o, e4, -⟩ := DataW.trod_bool Tryz.underlying4 t4
  obtain ⟨r, e5, -, w5⟩ := DataW.trod_int Tryz.underlying3 t5
  injection e0 with e0; injection e1 with e1; injection e4 with e4; injection e5 with e5
  subst e0; subst e1; subst e4; subst e5
  obtain ⟨A1, k1, tags, C1, rfl, ok1, R1, rows1⟩ := open_rows Tryz.underlying22 (show Tryz.prog.cellsOf 168 = 3 by kernel_rfl) (by decide) t2 (fun (t : TG) cs => cs = t.cells ∧ t.ok) (fun a cs h => by rw [h.1]; rfl) (fun fuel' _ cs' x' ht => open_tag ht)
  obtain ⟨A2, k2, fs, C2, rfl, ok2, R2, rows2⟩ := open_rows Tryz.underlying23 (show Tryz.prog.cellsOf 71 = 13 by kernel_rfl) (by decide) t3
    (fun (p : FD × TyT × List Value) cs => RepTy W.heap.size W p.2.1 p.2.2 ∧ FieldS (fun b => b < W.heap.size) W p.1 p.2.2 cs)
    (fun p cs h => by obtain ⟨D, cd, CV, rfl, -⟩ := h.2; simp [h.1.eight]) (fun fuel' hlt cs' x' ht => open_field ht (fun m hm cs2 x2 h2 => ih m (by omega) cs2 x2 h2))
  obtain ⟨A3, k3, of, C3, rfl, ok3, R3, rows3⟩ := open_rows Tryz.underlying24 q (by decide) t6 (fun (t : TyT) cs => RepTy W.heap.size W t cs) (fun a cs h => h.eight) (fun fuel' hlt cs' x' ht => ih fuel' (by omega) cs' x' ht)
  obtain ⟨A4, k4, lims, C4, rfl, ok4, R4, rows4⟩ := open_rows Tryz.underlying26 (show Tryz.prog.cellsOf 66 = 5 by kernel_rfl) (by decide) t7 (fun (t : LN) cs => NodeS (fun b => b < W.heap.size) W t cs)
    (fun a cs h => by obtain ⟨A, ca, rfl, -⟩ := h; rfl) (fun fuel' _ cs' x' ht => open_node ht)
  have hrow1 : RowsS (fun b => b < W.heap.size) W 3 A1 tags.length (itemCells TG.cells tags) := by
    rcases rows1 with h0 | ⟨b, off, h1, h2, h3⟩
    · exact .inl h0
    · refine .inr ⟨b, off, h1, h2, fun i hi j u hu => h3 i hi j u ?_⟩
      obtain ⟨a, ha⟩ : ∃ a, tags[i]? = some a := ⟨_, List.getElem?_eq_getElem hi⟩
      rw [(R1 i a ha).1]
      unfold itemCells at hu
      rw [ha] at hu
      exact hu
  have := RepT.mk (S := fun b => b < W.heap.size) (w := W) k s.data.toList tags (fs.map (·.1)) (fs.map (·.2.1)) o r of lims A1 k1 A2 k2 A3 k3 A4 k4 C2 (fun i => (fs[i]?.map (·.2.2)).getD []) C3 C4
    ok1 (by rw [List.length_map]; exact ok2) ok3 ok4 (by simp) (int_in w0) (int_in w5) (by rw [← ba_size]; exact w1) hrow1
    (fun t ht => by obtain ⟨i, hi⟩ := List.mem_iff_getElem?.1 ht; exact (R1 i t hi).2)
    (by rw [List.length_map]; exact rows2)
    (fun i d hd => by
      rw [List.getElem?_map] at hd
      obtain ⟨p, hp, rfl⟩ := Option.map_eq_some_iff.1 hd
      rw [hp]
      exact (R2 i p hp).2)
    (fun i t ht => by
      rw [List.getElem?_map] at ht
      obtain ⟨p, hp, rfl⟩ := Option.map_eq_some_iff.1 ht
      rw [hp]
      exact (R2 i p hp).1)
    rows3 R3 rows4 R4
  rw [ba_back, List.length_map] at this
  exact ⟨_, this⟩
end
end Go.Proofs.YtgdedcdjfljcnaaGreatDoor
namespace Go.Proofs.YtgdedcdjfljcnaaGreatDoor
open Go.RowKit

/-- All but one old block is as it was. -/
structure Kept (g : Nat) (w w' : World) : Prop where
  os : w'.os = w.os
  tape : w'.tape = w.tape
  output : w'.output = w.output
  size : w.heap.size ≤ w'.heap.size
  block : ∀ k, k < w.heap.size → k ≠ g → w'.heap[k]? = w.heap[k]?
theorem Kept.refl (g : Nat) (w : World) : Kept g w w := ⟨rfl, rfl, rfl, Nat.le_refl _, fun _ _ _ => rfl⟩
theorem Kept.trans {g : Nat} {a b c : World} (h : Kept g a b) (k : Kept g b c) : Kept g a c :=
  ⟨k.os.trans h.os, k.tape.trans h.tape, k.output.trans h.output, Nat.le_trans h.size k.size, fun i hi hg => (k.block i (Nat.lt_of_lt_of_le hi h.size) hg).trans (h.block i hi hg)⟩
theorem Kept.alloc {g : Nat} {a b : World} (h : Kept g a b) (o : Obj) : Kept g a (b.alloc o) :=
  ⟨h.os, h.tape, h.output, by simp; exact Nat.le_succ_of_le h.size, fun i hi hg => (Below.heap_alloc _ _ _ (Nat.lt_of_lt_of_le hi h.size)).trans (h.block i hi hg)⟩
theorem Kept.set {g : Nat} {a b : World} (h : Kept g a b) (i : Nat) (v : Value) : Kept g a (b.setCell ⟨g, i, none⟩ v) :=
  ⟨h.os, h.tape, h.output, by simp [World.setCell]; exact h.size, fun k hi hg => (Below.heap_setCell _ _ _ _ hg).trans (h.block k hi hg)⟩
theorem Kept.drew {g : Nat} {a b : World} (h : Kept g a b) : Kept g a b.drew := ⟨h.os, h.tape, h.output, h.size, h.block⟩
theorem Kept.drewN {g : Nat} {a b : World} (h : Kept g a b) (n : Nat) : Kept g a (b.drewN n) := ⟨h.os, h.tape, h.output, h.size, h.block⟩
theorem Kept.below {g B : Nat} {w w' : World} (h : Kept g w w') (hB : B ≤ g) (hs : B ≤ w.heap.size) : Below B w w' :=
  ⟨h.os, h.tape, h.output, h.size, fun k hk => h.block k (Nat.lt_of_lt_of_le hk hs) (by omega)⟩
theorem Kept.cell {g : Nat} {w w' : World} (h : Kept g w w') {p : Addr} (hp : p.block < w.heap.size) (hg : p.block ≠ g) : w'.cell? p = w.cell? p := World.cell?_of_block (w := w) (h.block p.block hp hg)
theorem Kept.frozen {g : Nat} {w w' : World} (h : Kept g w w') {p : Addr} (hp : p.block < w.heap.size) (hg : p.block ≠ g) : w'.frozen? p = w.frozen? p := World.frozen?_of_block (w := w) (h.block p.block hp hg)

/-- The counter: how many more may be met, and whether it has given up. -/
def SzIs (w : World) (g : Nat) (p : Int × Bool) : Prop := w.heap[g]? = some (.cells #[.int .i64 p.1, .bool p.2] 60 (0, 0))
theorem SzIs.lt {w : World} {g : Nat} {p : Int × Bool} (h : SzIs w g p) : g < w.heap.size := by
  rcases Nat.lt_or_ge g w.heap.size with h' | h'
  · exact h'
  · unfold SzIs at h; rw [Array.getElem?_eq_none h'] at h; cases h
theorem SzIs.alloc {w : World} {g : Nat} {p : Int × Bool} (h : SzIs w g p) (o : Obj) : SzIs (w.alloc o) g p := (Below.heap_alloc _ _ _ h.lt).trans h
theorem SzIs.cells {w : World} {g : Nat} {p : Int × Bool} (h : SzIs w g p) : w.cell? ⟨g, 0, none⟩ = some (.int .i64 p.1) ∧ w.cell? ⟨g, 1, none⟩ = some (.bool p.2) ∧ w.frozen? ⟨g, 0, none⟩ = false ∧ w.frozen? ⟨g, 1, none⟩ = false := by
  unfold SzIs at h
  refine ⟨?_, ?_, by simp [World.frozen?, h], by simp [World.frozen?, h]⟩ <;> simp [World.cell?, h]
theorem SzIs.set {w : World} {g : Nat} {p q : Int × Bool} (h : SzIs w g p) : SzIs ((w.setCell ⟨g, 0, none⟩ (.int .i64 q.1)).setCell ⟨g, 1, none⟩ (.bool q.2)) g q := by
  unfold SzIs at h ⊢
  simp [World.setCell, Array.getElem?_modify, h]

def szMeet (levels : Int) (p : Int × Bool) : Int × Bool := (p.1 - 1, p.2 || (decide (p.1 - 1 < 0) || decide (levels < 1)))

theorem meet_any (g : Nat) (left : Int) (levels : Int) (w : World) (h : SzIs w g (left, false)) (h0 : 0 ≤ left) (h1 : left ≤ 4611686018427387904) :
    Calls Tryz.prog 38 #[.pointer (some ⟨g, 0, none⟩), .int .i64 levels] w fun e w' => e = .returned (.bool (!(szMeet levels (left, false)).2)) ∧ SzIs w' g (szMeet levels (left, false)) ∧ Kept g w w' := by
  obtain ⟨c0, c1, f0, f1⟩ := h.cells
  have Hs := Lib.hid h
  have hk := Kept.refl g w
  clear h
  simp only at c0 c1
  go_enter Tryz.func38, Tryz.ntmps38
  go_wp2
  · go_ret
    refine ⟨ret_bool (by simp [szMeet]), ?_, (hk.set 0 _).set 1 _⟩
    have := Hs.out.set (q := szMeet levels (left, false))
    simpa [szMeet] using this
  · go_ret
    have hd : decide (left - 1 < 0) = true := decide_eq_true (by omega)
    have hv : szMeet levels (left, false) = (left - 1, true) := by simp [szMeet, hd]
    rw [hv]
    exact ⟨rfl, Hs.out.set (q := (left - 1, true)), (hk.set 0 _).set 1 _⟩

mutual
/-- What is left behind a value and those within it. -/
def szVal : VT → Int → Int × Bool → Int × Bool
  | .mk _ _ _ _ _ l, lv, p => if (szMeet lv p).2 = true then szMeet lv p else szList l (lv - 1) (szMeet lv p)
def szList : List VT → Int → Int × Bool → Int × Bool
  | [], _, p => p
  | x :: t, lv, p => if p.2 = true then p else szList t lv (szVal x lv p)
end
theorem szMeet_ok (lv : Int) (p : Int × Bool) : (szMeet lv p).1 ≤ p.1 ∧ ((szMeet lv p).2 = false → 0 ≤ (szMeet lv p).1 ∧ 1 ≤ lv) := by
  unfold szMeet
  refine ⟨by simp; omega, fun h => ?_⟩
  rw [Bool.or_eq_false_iff, Bool.or_eq_false_iff, decide_eq_false_iff_not, decide_eq_false_iff_not] at h
  simp only; omega
mutual
theorem szVal_ok : ∀ (x : VT) (lv : Int) (p : Int × Bool), (szVal x lv p).1 ≤ p.1 ∧ ((szVal x lv p).2 = false → 0 ≤ (szVal x lv p).1)
  | .mk k n e s names l, lv, p => by
    have h1 := szMeet_ok lv p
    have h2 := szList_ok l (lv - 1) (szMeet lv p)
    rw [szVal]
    split
    · rename_i h; exact ⟨h1.1, fun h' => by rw [h] at h'; cases h'⟩
    · rename_i h
      exact ⟨by omega, fun h' => h2.2 (h1.2 (by simpa using h)).1 h'⟩
theorem szList_ok : ∀ (l : List VT) (lv : Int) (p : Int × Bool), (szList l lv p).1 ≤ p.1 ∧ (0 ≤ p.1 → (szList l lv p).2 = false → 0 ≤ (szList l lv p).1)
  | [], lv, p => by rw [szList]; exact ⟨Int.le_refl _, fun h _ => h⟩
  | x :: t, lv, p => by
    have h1 := szVal_ok x lv p
    have h2 := szList_ok t lv (szVal x lv p)
    rw [szList]
    split
    · exact ⟨Int.le_refl _, fun h _ => h⟩
    · refine ⟨by omega, fun h0 h' => ?_⟩
      by_cases hb : (szVal x lv p).2 = false
      · exact h2.2 (h1.2 hb) h'
      · have hb' : (szVal x lv p).2 = true := by simpa using hb
        have : szList t lv (szVal x lv p) = szVal x lv p := by cases t with
          | nil => rw [szList]
          | cons y t => rw [szList, if_pos hb']
        rw [this] at h'; rw [hb'] at h'; cases h'
end
/-- One more. -/
theorem szList_snoc (lv : Int) : ∀ (l : List VT) (x : VT) (p : Int × Bool), szList (l ++ [x]) lv p = if (szList l lv p).2 = true then szList l lv p else szVal x lv (szList l lv p)
  | [], x, p => by
    rw [List.nil_append, szList, szList, szList]
  | y :: t, x, p => by
    rw [List.cons_append, szList, szList]
    by_cases h : p.2 = true
    · rw [if_pos h, if_pos h, if_pos h]
    · rw [if_neg h, if_neg h, szList_snoc lv t x]
theorem szList_stop (lv : Int) (l t : List VT) (p : Int × Bool) (h : (szList l lv p).2 = true) : szList (l ++ t) lv p = szList l lv p := by
  induction t generalizing l with
  | nil => rw [List.append_nil]
  | cons x t ih =>
    have e : szList (l ++ [x]) lv p = szList l lv p := by rw [szList_snoc, if_pos h]
    rw [show l ++ x :: t = (l ++ [x]) ++ t by simp, ih (l ++ [x]) (by rw [e]; exact h), e]
theorem szList_take (lv : Int) (l : List VT) (p : Int × Bool) (k : Nat) (h : (szList (l.take k) lv p).2 = true) : szList l lv p = szList (l.take k) lv p := by
  have := szList_stop lv (l.take k) (l.drop k) p h
  rwa [List.take_append_drop] at this

/-- The six cells of an item. -/
theorem six_of {cs : List Value} (h : cs.length = 6) : ∃ a b c d e f, cs = [a, b, c, d, e, f] := by
  match cs, h with
  | [a, b, c, d, e, f], _ => exact ⟨a, b, c, d, e, f, rfl⟩

set_option maxRecDepth 100000 in
theorem sizerValue_any {B : Nat} {w0 : World} {x : VT} {cs : List Value} (hrep : Rep B w0 x cs) : ∀ (w : World) (g : Nat) (left levels : Int), Below B w0 w → B ≤ w.heap.size → B ≤ g → SzIs w g (left, false) → 0 ≤ left → left ≤ 4611686018427387904 → levels ≤ 4611686018427387904 → -4611686018427387904 ≤ levels →
    Calls Tryz.prog 39 #[.pointer (some ⟨g, 0, none⟩), .agg cs.toArray, .int .i64 levels] w fun e w' => e = .returned (.tuple #[]) ∧ SzIs w' g (szVal x levels (left, false)) ∧ Kept g w w' := by
  induction hrep with
  | mk k n e s names items A ca D cb C hA0 hD0 hAc hDc hk hn he hs hA hx hln hli hi hr ih =>
    intro w g left levels hb hbs hg hsz h0 h1 hl1 hl0
    have hlt := hsz.lt
    have hli' : items.length ≤ 9223372036854775807 := hli
    have Hme := Lib.hid (fun w' (h : SzIs w' g (left, false)) => meet_any g left levels w' h h0 h1)
    have hq := szMeet_ok levels (left, false)
    have hsv : szVal (.mk k n e s names items) levels (left, false) = if (szMeet levels (left, false)).2 = true then szMeet levels (left, false) else szList items (levels - 1) (szMeet levels (left, false)) := by rw [szVal]
    have Hsv := Lib.hid hsv
    have Hsz := Lib.hid (hsz.alloc (.cells #[.int .i64 k, .int .i64 n, .int .i64 e, .string ⟨s.toArray⟩, .slice A names.length ca, .slice D items.length cb] 44))
    generalize szMeet levels (left, false) = q at *
    obtain ⟨q1, q2⟩ := q
    simp only at hq
    have hka := (Kept.refl g w).alloc (.cells #[.int .i64 k, .int .i64 n, .int .i64 e, .string ⟨s.toArray⟩, .slice A names.length ca, .slice D items.length cb] 44)
    have Hi := Lib.hid hi
    have Hr := Lib.hid hr
    have Ih := Lib.hid ih
    clear hsv hsz hi hr ih hA hx
    cases q2 with
    | true =>
      go_enter Tryz.func39, Tryz.ntmps39
      go_wp2_with (go_at_call 38; refine (Hme.out _ Hsz.out).mono ?_; rintro e w1 ⟨rfl, hs1, hk1⟩)
      (try simp only [Exit.inBlock, Exit.then]); refine bodyPost_ret (results_none rfl _ _ _) rfl ?_
      exact ⟨rfl, by rw [Hsv.out, if_pos trivial]; exact hs1, hka.trans hk1⟩
    | false =>
      have hql := hq.2 rfl
      have hsi : 0 < items.length → ∃ b off, D = some ⟨b, off, none⟩ ∧ b < B ∧ ∀ i x, items[i]? = some x → ∀ j u, (C i)[j]? = some u → w0.cell? ⟨b, off + i * 6 + j, none⟩ = some u := fun h => Hi.out.resolve_left (by intro e; rw [e] at h; exact absurd h (Nat.lt_irrefl _))
      have Hsi := Lib.hid hsi
      clear hsi hka
      go_enter Tryz.func39, Tryz.ntmps39
      go_wp2_with (go_at_call 38; refine (Hme.out _ Hsz.out).mono ?_; rintro e w1 ⟨rfl, hs1, hk1⟩)
      have hka := ((Kept.refl g w).alloc (.cells #[.int .i64 k, .int .i64 n, .int .i64 e, .string ⟨s.toArray⟩, .slice A names.length ca, .slice D items.length cb] 44)).trans hk1
      have hn1 : w.heap.size < w1.heap.size := by have := hk1.size; simp at this; omega
      have cD : w1.cell? ⟨w.heap.size, 5, none⟩ = some (.slice D items.length cb) := (hk1.cell (p := ⟨w.heap.size, 5, none⟩) (by simp) (by simp; omega)).trans (cell_new w _ _ 5)
      have Hk1 := Lib.hid hka
      clear hk1 hka
      go_loopw [6] (fun i wr => ∃ m : Nat, m ≤ items.length ∧ i = .int .i64 m ∧ Hid (SzIs wr g (szList (items.take m) (levels - 1) (q1, false))) ∧ Kept g w1 wr) (fun i _ => items.length - (intOf i).toNat)
      case atStart => exact ⟨0, by omega, rfl, by rw [List.take_zero, szList]; exact hs1, Kept.refl g w1⟩
      case round =>
        obtain ⟨m, hm, rfl, hsm, hkm⟩ := hrel
        have cD' : wr.cell? ⟨w.heap.size, 5, none⟩ = some (.slice D items.length cb) := (hkm.cell (p := ⟨w.heap.size, 5, none⟩) hn1 (by simp; omega)).trans cD
        obtain ⟨g0, g1, f0, f1⟩ := hsm.out.cells
        have hok := szList_ok (items.take m) (levels - 1) (q1, false)
        have hstop := szList_take (levels - 1) items (q1, false) m
        have hfin : ¬ m < items.length → szList items (levels - 1) (q1, false) = szList (items.take m) (levels - 1) (q1, false) := fun h => by rw [List.take_of_length_le (by omega)]
        have hsn : ∀ y, items[m]? = some y → szList (items.take (m + 1)) (levels - 1) (q1, false) = if (szList (items.take m) (levels - 1) (q1, false)).2 = true then szList (items.take m) (levels - 1) (q1, false) else szVal y (levels - 1) (szList (items.take m) (levels - 1) (q1, false)) := fun y hy => by
          rw [List.take_add_one, hy]; exact szList_snoc _ _ _ _
        generalize szList (items.take m) (levels - 1) (q1, false) = p at *
        obtain ⟨p1, p2⟩ := p
        simp only at hok g0 g1 hstop
        by_cases hml : m < items.length
        · cases p2 with
          | true =>
            have Hst := Lib.hid (hstop rfl)
            clear hstop hfin hsn hok
            go_wp2_with fail
            go_end0
            exact ⟨rfl, by rw [Hsv.out, if_neg (by simp), Hst.out]; exact hsm.out, Hk1.out.trans hkm⟩
          | false =>
            obtain ⟨y, hy⟩ : ∃ y, items[m]? = some y := ⟨_, List.getElem?_eq_getElem hml⟩
            obtain ⟨b, off, rfl, hbB, hcl⟩ := Hsi.out (by omega)
            obtain ⟨v0, v1, v2, v3, v4, v5, hC⟩ := six_of (Hr.out m y hy).six
            have hbw : Below B w0 wr := hb.trans ((Hk1.out.trans hkm).below hg hbs)
            have hcl' := hcl m y hy
            rw [hC] at hcl'
            have k0 : wr.cell? ⟨b, off + m * 6, none⟩ = some v0 := (hbw.cell (p := ⟨b, _, none⟩) hbB).trans (hcl' 0 v0 rfl)
            have k1 : wr.cell? ⟨b, off + m * 6 + 1, none⟩ = some v1 := (hbw.cell (p := ⟨b, _, none⟩) hbB).trans (hcl' 1 v1 rfl)
            have k2 : wr.cell? ⟨b, off + m * 6 + 2, none⟩ = some v2 := (hbw.cell (p := ⟨b, _, none⟩) hbB).trans (hcl' 2 v2 rfl)
            have k3 : wr.cell? ⟨b, off + m * 6 + 3, none⟩ = some v3 := (hbw.cell (p := ⟨b, _, none⟩) hbB).trans (hcl' 3 v3 rfl)
            have k4 : wr.cell? ⟨b, off + m * 6 + 4, none⟩ = some v4 := (hbw.cell (p := ⟨b, _, none⟩) hbB).trans (hcl' 4 v4 rfl)
            have k5 : wr.cell? ⟨b, off + m * 6 + 5, none⟩ = some v5 := (hbw.cell (p := ⟨b, _, none⟩) hbB).trans (hcl' 5 v5 rfl)
            have hih := Ih.out m y hy wr g p1 (levels - 1) hbw (by have := (Hk1.out.trans hkm).size; omega) hg hsm.out (by have := hok.2 (by omega) rfl; omega) (by omega) (by omega) (by omega)
            rw [hC] at hih
            have Hih := Lib.hid hih
            have Hsn := Lib.hid (hsn y hy)
            have hmn : (0 : Int) ≤ m := by omega
            have hmm : (m : Int) < items.length := by omega
            have Hkm := Lib.hid hkm
            clear hcl hcl' hih hsn hstop hfin hy hC hbw hkm
            go_wp2_with (go_at_call 39; refine (Hih.out).mono ?_; rintro e w2 ⟨rfl, hs2, hk2⟩)
            go_roundw
            case rel => exact ⟨m + 1, by omega, by go_num, by rw [Hsn.out, if_neg (by simp)]; exact hs2, Hkm.out.trans hk2⟩
            case measure => simp [intOf] <;> omega
        · have Hf := Lib.hid (hfin hml)
          clear hstop hfin hsn hok
          go_wp2_with fail
          go_end0
          exact ⟨rfl, by rw [Hsv.out, if_neg (by simp), Hf.out]; exact hsm.out, Hk1.out.trans hkm⟩
end Go.Proofs.YtgdedcdjfljcnaaGreatDoor
namespace Go.Proofs.YtgdedcdjfljcnaaGreatDoor
open Go.RowKit

mutual
/-- What is left behind a type and what is within it. -/
def szTy : TyT → Int → Int × Bool → Int × Bool
  | .mk _ _ _ fds fts _ _ of _, lv, p => if (szMeet lv p).2 = true then szMeet lv p else szTys of (lv - 1) (szFts fts (fds.map FD.dflt) (lv - 1) (szMeet lv p))
def szFts : List TyT → List (List VT) → Int → Int × Bool → Int × Bool
  | [], _, _, p => p
  | x :: t, ds, lv, p => if p.2 = true then p else szFts t ds.tail lv (szList (ds.headD []) lv (szTy x lv p))
def szTys : List TyT → Int → Int × Bool → Int × Bool
  | [], _, p => p
  | x :: t, lv, p => if p.2 = true then p else szTys t lv (szTy x lv p)
end
/-- One field; one type. -/
def stF (lv : Int) (p : Int × Bool) (q : TyT × List VT) : Int × Bool := if p.2 = true then p else szList q.2 lv (szTy q.1 lv p)
def stT (lv : Int) (p : Int × Bool) (x : TyT) : Int × Bool := if p.2 = true then p else szTy x lv p
theorem foldl_stop {α : Type} {f : Int × Bool → α → Int × Bool} (hf : ∀ p x, p.2 = true → f p x = p) : ∀ (l : List α) (p : Int × Bool), p.2 = true → l.foldl f p = p
  | [], _, _ => rfl
  | x :: t, p, h => by rw [List.foldl_cons, hf p x h, foldl_stop hf t p h]
theorem foldl_next {α β : Type} {f : β → α → β} {l : List α} {m : Nat} {x : α} (p : β) (hx : l[m]? = some x) : (l.take (m + 1)).foldl f p = f ((l.take m).foldl f p) x := by
  rw [List.take_add_one, hx, List.foldl_append]; rfl
theorem foldl_stopped {α : Type} {f : Int × Bool → α → Int × Bool} (hf : ∀ p x, p.2 = true → f p x = p) {l : List α} {p : Int × Bool} {m : Nat} (h : ((l.take m).foldl f p).2 = true) : l.foldl f p = (l.take m).foldl f p := by
  conv => lhs; rw [← List.take_append_drop m l, List.foldl_append]
  exact foldl_stop hf _ _ h
theorem stF_stop (lv : Int) : ∀ (p : Int × Bool) (x : TyT × List VT), p.2 = true → stF lv p x = p := fun p x h => by unfold stF; rw [if_pos h]
theorem stT_stop (lv : Int) : ∀ (p : Int × Bool) (x : TyT), p.2 = true → stT lv p x = p := fun p x h => by unfold stT; rw [if_pos h]
theorem szTys_fold (lv : Int) : ∀ (l : List TyT) (p : Int × Bool), szTys l lv p = l.foldl (stT lv) p
  | [], p => by rw [szTys]; rfl
  | x :: t, p => by
    rw [szTys, List.foldl_cons]
    split
    · rename_i h; rw [stT_stop lv p x h, foldl_stop (stT_stop lv) t p h]
    · rename_i h; rw [szTys_fold lv t]; unfold stT; rw [if_neg h]
theorem szFts_fold (lv : Int) : ∀ (l : List TyT) (ds : List (List VT)) (p : Int × Bool), ds.length = l.length → szFts l ds lv p = (l.zip ds).foldl (stF lv) p
  | [], ds, p, _ => by rw [szFts]; rfl
  | x :: t, [], p, h => by simp at h
  | x :: t, d :: ds, p, h => by
    rw [szFts, List.zip_cons_cons, List.foldl_cons]
    split
    · rename_i h2; rw [stF_stop lv p _ h2, foldl_stop (stF_stop lv) _ p h2]
    · rename_i h2
      rw [szFts_fold lv t _ _ (by simpa using h)]
      simp only [List.tail_cons, List.headD_cons]
      unfold stF
      rw [if_neg h2]
/-- What is left grows never, and is no debt unless it is given up. -/
def SzOk (p q : Int × Bool) : Prop := q.1 ≤ p.1 ∧ (q.2 = false → 0 ≤ q.1)
theorem foldl_ok {α : Type} {f : Int × Bool → α → Int × Bool} (hs : ∀ p x, p.2 = true → f p x = p) : ∀ (l : List α) (p : Int × Bool), (∀ x ∈ l, ∀ p, p.2 = false → SzOk p (f p x)) → (l.foldl f p).1 ≤ p.1 ∧ (0 ≤ p.1 → (l.foldl f p).2 = false → 0 ≤ (l.foldl f p).1)
  | [], p, _ => ⟨Int.le_refl _, fun h _ => h⟩
  | x :: t, p, h => by
    cases hp : p.2 with
    | true => rw [foldl_stop hs (x :: t) p hp]; exact ⟨Int.le_refl _, fun h _ => h⟩
    | false =>
      have h1 := h x (List.mem_cons_self ..) p hp
      have h2 := foldl_ok hs t (f p x) (fun y hy => h y (List.mem_cons_of_mem _ hy))
      rw [List.foldl_cons]
      refine ⟨Int.le_trans h2.1 h1.1, fun h0 hf => ?_⟩
      cases hb : (f p x).2 with
      | false => exact h2.2 (h1.2 hb) hf
      | true => rw [foldl_stop hs t _ hb, hb] at hf; cases hf
theorem szTy_ok : ∀ (x : TyT) (lv : Int) (p : Int × Bool), SzOk p (szTy x lv p) := by
  intro x
  induction x using TyT.ind with
  | h k n t fd ft o r f l ih1 ih2 =>
    intro lv p
    have hm := szMeet_ok lv p
    rw [szTy]
    split
    · rename_i h; exact ⟨hm.1, fun h' => by rw [h] at h'; cases h'⟩
    · rename_i h
      have h0 := (hm.2 (by simpa using h)).1
      have a : (szFts ft (fd.map FD.dflt) (lv - 1) (szMeet lv p)).1 ≤ (szMeet lv p).1 ∧ (0 ≤ (szMeet lv p).1 → (szFts ft (fd.map FD.dflt) (lv - 1) (szMeet lv p)).2 = false → 0 ≤ (szFts ft (fd.map FD.dflt) (lv - 1) (szMeet lv p)).1) := by
        generalize fd.map FD.dflt = ds
        generalize szMeet lv p = q
        clear h0 hm h
        induction ft generalizing ds q with
        | nil => rw [szFts]; exact ⟨Int.le_refl _, fun h _ => h⟩
        | cons x t iht =>
          rw [szFts]
          split
          · exact ⟨Int.le_refl _, fun h _ => h⟩
          · have h1 := ih1 x (List.mem_cons_self ..) (lv - 1) q
            have h2 := szList_ok (ds.headD []) (lv - 1) (szTy x (lv - 1) q)
            have h3 := iht (fun y hy => ih1 y (List.mem_cons_of_mem _ hy)) ds.tail (szList (ds.headD []) (lv - 1) (szTy x (lv - 1) q))
            refine ⟨Int.le_trans h3.1 (Int.le_trans h2.1 h1.1), fun h0 hf => ?_⟩
            cases hb : (szList (ds.headD []) (lv - 1) (szTy x (lv - 1) q)).2 with
            | true =>
              have : szFts t ds.tail (lv - 1) (szList (ds.headD []) (lv - 1) (szTy x (lv - 1) q)) = szList (ds.headD []) (lv - 1) (szTy x (lv - 1) q) := by cases t with
                | nil => rw [szFts]
                | cons y t => rw [szFts, if_pos hb]
              rw [this, hb] at hf; cases hf
            | false =>
              refine h3.2 ?_ hf
              cases hb1 : (szTy x (lv - 1) q).2 with
              | false => exact h2.2 (h1.2 hb1) hb
              | true =>
                have : szList (ds.headD []) (lv - 1) (szTy x (lv - 1) q) = szTy x (lv - 1) q := by
                  cases ds.headD [] with
                  | nil => rw [szList]
                  | cons y t => rw [szList, if_pos hb1]
                rw [this, hb1] at hb; cases hb
      rw [szTys_fold]
      have b := foldl_ok (stT_stop (lv - 1)) f (szFts ft (fd.map FD.dflt) (lv - 1) (szMeet lv p)) (fun x hx q hq => by unfold stT; rw [if_neg (by rw [hq]; decide)]; exact ih2 x hx (lv - 1) q)
      refine ⟨Int.le_trans b.1 (Int.le_trans a.1 hm.1), fun hf => ?_⟩
      cases hb : (szFts ft (fd.map FD.dflt) (lv - 1) (szMeet lv p)).2 with
      | false => exact b.2 (a.2 h0 hb) hf
      | true => rw [foldl_stop (stT_stop (lv - 1)) f _ hb, hb] at hf; cases hf
theorem szList_sz (l : List VT) (lv : Int) (p q : Int × Bool) (h : SzOk p q) : SzOk p (szList l lv q) := by
  have h2 := szList_ok l lv q
  refine ⟨Int.le_trans h2.1 h.1, fun hf => ?_⟩
  cases hb : q.2 with
  | false => exact h2.2 (h.2 hb) hf
  | true =>
    have : szList l lv q = q := by
      cases l with
      | nil => rw [szList]
      | cons y t => rw [szList, if_pos hb]
    rw [this, hb] at hf; cases hf
theorem stF_ok (lv : Int) (x : TyT × List VT) (p : Int × Bool) (hp : p.2 = false) : SzOk p (stF lv p x) := by
  unfold stF
  rw [if_neg (by rw [hp]; decide)]
  exact szList_sz _ _ _ _ (szTy_ok x.1 lv p)
theorem stT_ok (lv : Int) (x : TyT) (p : Int × Bool) (hp : p.2 = false) : SzOk p (stT lv p x) := by
  unfold stT
  rw [if_neg (by rw [hp]; decide)]
  exact szTy_ok x lv p
theorem szList_stay (l : List VT) (lv : Int) (q : Int × Bool) (hb : q.2 = true) : szList l lv q = q := by
  cases l with
  | nil => rw [szList]
  | cons y t => rw [szList, if_pos hb]
end Go.Proofs.YtgdedcdjfljcnaaGreatDoor
