/- Values as trees, how they lie in memory, and that whatever a call is handed is such a tree. Spans: how they lie in memory; contracts on the small functions over them (few, within, has, In, isIn). Types as trees, how they lie in memory, and that whatever a call is handed is such a tree. -/
import Derived.Test.YtgdedcdjfljcnaaGreatDoorM01
import Derived.Test.YtgdedcdjfljcnaaGreatDoorProg
import Derived.Deep.Slices
import Derived.Deep.Strs
import Derived.Carry
import Derived.ChangeArms
import Derived.Laws.World
namespace Go.Proofs.YtgdedcdjfljcnaaGreatDoor
open Go.RowKit

/-- A value of the document: kind, two numbers, a string, names, and the values within it. -/
inductive VT where
  | mk (kind n e : Int) (s : List UInt8) (names : List (List UInt8)) (items : List VT)
def VT.items : VT → List VT | .mk _ _ _ _ _ l => l
def VT.names : VT → List (List UInt8) | .mk _ _ _ _ l _ => l
def VT.kind : VT → Int | .mk k _ _ _ _ _ => k
def VT.num : VT → Int | .mk _ n _ _ _ _ => n
def VT.exp : VT → Int | .mk _ _ e _ _ _ => e
def VT.str : VT → List UInt8 | .mk _ _ _ s _ _ => s

/-- An int. -/
def InI (n : Int) : Prop := -9223372036854775808 ≤ n ∧ n ≤ 9223372036854775807
/-- Names lie in blocks of a kind. -/
def NamesS (S : Nat → Prop) (w : World) (A : Option Addr) (ws : List (List UInt8)) : Prop :=
  ws = [] ∨ ∃ b off, A = some ⟨b, off, none⟩ ∧ S b ∧ ∀ j x, ws[j]? = some x → w.cell? ⟨b, off + j, none⟩ = some (.string ⟨x.toArray⟩)
/-- A tree lies in blocks of a kind, its own six cells being these. -/
inductive RepS (S : Nat → Prop) (w : World) : VT → List Value → Prop
  | mk (k n e : Int) (s : List UInt8) (names : List (List UInt8)) (items : List VT) (A : Option Addr) (ca : Nat) (D : Option Addr) (cb : Nat) (C : Nat → List Value) (hA0 : A = none → ca = 0) (hD0 : D = none → cb = 0) (hAc : names.length ≤ ca) (hDc : items.length ≤ cb)
      (hk : InI k) (hn : InI n) (he : InI e) (hs : s.length ≤ maxLen) (hA : NamesS S w A names) (hx : ∀ x ∈ names, x.length ≤ maxLen) (hln : names.length ≤ maxLen) (hli : items.length ≤ maxLen)
      (hi : items = [] ∨ ∃ b off, D = some ⟨b, off, none⟩ ∧ S b ∧ ∀ i x, items[i]? = some x → ∀ j u, (C i)[j]? = some u → w.cell? ⟨b, off + i * 6 + j, none⟩ = some u)
      (hr : ∀ i x, items[i]? = some x → RepS S w x (C i)) :
      RepS S w (.mk k n e s names items) [.int .i64 k, .int .i64 n, .int .i64 e, .string ⟨s.toArray⟩, .slice A names.length ca, .slice D items.length cb]
/-- .. below a block. -/
abbrev NamesAt (B : Nat) := NamesS (fun b => b < B)
abbrev Rep (B : Nat) := RepS (fun b => b < B)

/-- Blocks of a kind are as they were. -/
def Stay (S : Nat → Prop) (w w' : World) : Prop := ∀ b, S b → w'.heap[b]? = w.heap[b]?
theorem Stay.cell {S : Nat → Prop} {w w' : World} (h : Stay S w w') {p : Addr} (hp : S p.block) : w'.cell? p = w.cell? p := World.cell?_of_block (w := w) (h p.block hp)
theorem NamesS.keep {S T : Nat → Prop} {w w' : World} {A : Option Addr} {ws : List (List UInt8)} (h : NamesS S w A ws) (hb : Stay S w w') (hT : ∀ b, S b → T b) : NamesS T w' A ws := by
  rcases h with h | ⟨b, off, h1, h2, h3⟩
  · exact .inl h
  · exact .inr ⟨b, off, h1, hT b h2, fun j x hx => (hb.cell (p := ⟨b, off + j, none⟩) h2).trans (h3 j x hx)⟩
theorem RepS.keep {S T : Nat → Prop} {w w' : World} (hb : Stay S w w') (hT : ∀ b, S b → T b) : ∀ {x : VT} {cs : List Value}, RepS S w x cs → RepS T w' x cs := by
  intro x cs h
  induction h with
  | mk k n e s names items A ca D cb C hA0 hD0 hAc hDc hk hn he hs hA hx hln hli hi hr ih =>
    refine .mk k n e s names items A ca D cb C hA0 hD0 hAc hDc hk hn he hs (hA.keep hb hT) hx hln hli ?_ ih
    rcases hi with hi | ⟨b, off, h1, h2, h3⟩
    · exact .inl hi
    · exact .inr ⟨b, off, h1, hT b h2, fun i x hx j u hu => (hb.cell (p := ⟨b, off + i * 6 + j, none⟩) h2).trans (h3 i x hx j u hu)⟩
theorem Below.stay {B : Nat} {w w' : World} (h : Below B w w') : Stay (fun b => b < B) w w' := fun b hb => h.block b hb
theorem NamesAt.below {B : Nat} {w w' : World} {A : Option Addr} {ws : List (List UInt8)} (h : NamesAt B w A ws) (hb : Below B w w') : NamesAt B w' A ws := NamesS.keep h (Below.stay hb) fun _ h => h
theorem Rep.keep {B : Nat} {w w' : World} (hb : Below B w w') {x : VT} {cs : List Value} (h : Rep B w x cs) : Rep B w' x cs := RepS.keep (Below.stay hb) (fun _ h => h) h
theorem Rep.mono {B B' : Nat} {w : World} (hB : B ≤ B') {x : VT} {cs : List Value} (h : Rep B w x cs) : Rep B' w x cs := RepS.keep (fun _ _ => rfl) (fun _ h => Nat.lt_of_lt_of_le h hB) h
theorem RepS.six {S : Nat → Prop} {w : World} {x : VT} {cs : List Value} (h : RepS S w x cs) : cs.length = 6 := by cases h; rfl

/-- Each index of a list has what it wants: then there is a list of them. -/
theorem list_of_all {α : Type} {p : Nat → α → Prop} : ∀ (n : Nat), (∀ i, i < n → ∃ x, p i x) → ∃ l : List α, l.length = n ∧ ∀ i x, l[i]? = some x → p i x
  | 0, _ => ⟨[], rfl, fun i x h => by simp at h⟩
  | n + 1, h => by
    obtain ⟨l, hl, hp⟩ := list_of_all n (fun i hi => h i (by omega))
    obtain ⟨x, hx⟩ := h n (by omega)
    refine ⟨l ++ [x], by simp [hl], fun i y hy => ?_⟩
    rw [List.getElem?_append] at hy
    split at hy
    · exact hp i y hy
    · rename_i hge
      have : i = n := by
        have := (List.getElem?_eq_some_iff.1 hy).1
        simp at this; omega
      subst this
      simp [hl] at hy
      subst hy; exact hx

theorem add_off (b off j : Nat) : (({ block := b, off := off, spot := none } : Addr).add j) = ⟨b, off + j, none⟩ := by
  unfold Addr.add
  by_cases hj : j = 0 <;> simp [hj]
theorem cell_block {w : World} {p : Addr} {v : Value} (h : w.cell? p = some v) : p.block < w.heap.size := by
  rcases Nat.lt_or_ge p.block w.heap.size with h' | h'
  · exact h'
  · simp [World.cell?, Array.getElem?_eq_none h'] at h
theorem int_in {n : Int} (h : (Lit.int .i64 n).wf = true) : InI n := by
  have h1 : IntKind.i64.min = -9223372036854775808 := by kernel_rfl
  have h2 : IntKind.i64.max = 9223372036854775807 := by kernel_rfl
  have h' : (decide (IntKind.i64.min ≤ n) && decide (n ≤ IntKind.i64.max)) = true := h
  rw [h1, h2, Bool.and_eq_true, decide_eq_true_eq, decide_eq_true_eq] at h'
  exact h'

section
variable {H : Type} {enc : TypeId × Value → H} {W : World}
theorem open_names {fuel : Nat} {c : Value} {x : DataW H × List MemPlace} (h : DataW.trod enc Tryz.prog W 0 (fun _ => true) true fuel 41 [c] = some x) :
    ∃ A cap names, c = .slice A (names : List (List UInt8)).length cap ∧ (A = none → cap = 0) ∧ names.length ≤ cap ∧ NamesAt W.heap.size W A names ∧ (∀ x ∈ names, x.length ≤ maxLen) ∧ names.length ≤ maxLen := by
  have q1 : Tryz.prog.cellsOf 9 = 1 := by kernel_rfl
  rcases DataW.trod_slice Tryz.underlying41 h with ⟨hcs, -⟩ | ⟨a, len, cap, elems, rest, n, -, hcs, -, -, hle, hm, hel, hi, -, -⟩
  · injection hcs with hcs
    exact ⟨none, 0, [], hcs, fun _ => rfl, Nat.le_refl _, .inl rfl, fun x h => by simp at h, Nat.zero_le _⟩
  · injection hcs with hcs
    rw [q1] at hi
    have key : ∀ i, i < len → ∃ t : List UInt8, W.cell? (a.add i) = some (.string ⟨t.toArray⟩) ∧ t.length ≤ maxLen := by
      intro i hil
      have e := hi i hil
      rw [List.getElem?_eq_getElem (by omega)] at e
      obtain ⟨cs', hc, ht⟩ := Option.bind_eq_some_iff.1 e
      obtain ⟨-, hcl, hat⟩ := World.cells?_some hc
      obtain ⟨b, rfl, -, wb⟩ := DataW.trod_string Tryz.underlying9 ht
      have h0 := hat 0 (by omega)
      rw [Go.Deep.add_add, Nat.mul_one, Nat.add_zero] at h0
      refine ⟨b.data.toList, ?_, ?_⟩
      · have : (ByteArray.mk b.data.toList.toArray) = b := by cases b; simp
        rw [this]; exact h0
      · rw [← ba_size]; exact wb
    obtain ⟨ts, hlen, hts⟩ := list_of_all len key
    refine ⟨some a, cap, ts, by rw [hlen]; exact hcs, fun h => (by cases h), by omega, ?_, ?_, by omega⟩
    · rcases Nat.eq_zero_or_pos len with h0 | h0
      · exact .inl (List.eq_nil_of_length_eq_zero (by omega))
      · obtain ⟨t0, ht0⟩ : ∃ t, ts[0]? = some t := ⟨_, List.getElem?_eq_getElem (by omega)⟩
        have c0 := (hts 0 t0 ht0).1
        have hsp := World.cell?_spot c0
        obtain ⟨b, off, sp⟩ := a
        have hb := cell_block c0
        obtain rfl : sp = none := by simpa [Addr.add] using hsp
        refine .inr ⟨b, off, rfl, by simpa [Addr.add] using hb, fun j x hx => ?_⟩
        have := (hts j x hx).1
        rwa [add_off] at this
    · intro x hx
      obtain ⟨i, hi⟩ := List.mem_iff_getElem?.1 hx
      exact (hts i x hi).2

set_option maxRecDepth 100000 in
theorem open_val : ∀ (fuel : Nat) (cs : List Value) (x : DataW H × List MemPlace), DataW.trod enc Tryz.prog W 0 (fun _ => true) true fuel 44 cs = some x → ∃ t, Rep W.heap.size W t cs := by
  intro fuel
  induction fuel using Nat.strongRecOn with
  | _ fuel ih =>
  intro cs x h
  have q4 : Tryz.prog.cellsOf 44 = 6 := by kernel_rfl
  obtain ⟨xs, n, rfl, -, hl, hlen, hf⟩ := DataW.trod_struct Tryz.underlying44 h
  rw [q4] at hl
  obtain ⟨c0, c1, c2, c3, c4, c5, rfl⟩ : ∃ c0 c1 c2 c3 c4 c5, cs = [c0, c1, c2, c3, c4, c5] := by
    match cs, hl with
    | [c0, c1, c2, c3, c4, c5], _ => exact ⟨c0, c1, c2, c3, c4, c5, rfl⟩
  obtain ⟨y0, y1, y2, y3, y4, y5, rfl⟩ : ∃ y0 y1 y2 y3 y4 y5, xs = [y0, y1, y2, y3, y4, y5] := by
    match xs, hlen with
    | [y0, y1, y2, y3, y4, y5], _ => exact ⟨y0, y1, y2, y3, y4, y5, rfl⟩
  have t0 : DataW.trod enc Tryz.prog W 0 (fun _ => true) true n 3 [c0] = some y0 := hf 0 _ rfl
  have t1 : DataW.trod enc Tryz.prog W 0 (fun _ => true) true n 3 [c1] = some y1 := hf 1 _ rfl
  have t2 : DataW.trod enc Tryz.prog W 0 (fun _ => true) true n 3 [c2] = some y2 := hf 2 _ rfl
  have t3 : DataW.trod enc Tryz.prog W 0 (fun _ => true) true n 9 [c3] = some y3 := hf 3 _ rfl
  obtain ⟨k, e0, -, w0⟩ := DataW.trod_int Tryz.underlying3 t0
  obtain ⟨m, e1, -, w1⟩ := DataW.trod_int Tryz.underlying3 t1
  obtain ⟨e, e2, -, w2⟩ := DataW.trod_int Tryz.underlying3 t2
  obtain ⟨b, e3, -, w3⟩ := DataW.trod_string Tryz.underlying9 t3
  injection e0 with e0; injection e1 with e1; injection e2 with e2; injection e3 with e3
  subst e0; subst e1; subst e2; subst e3
  have t4' : DataW.trod enc Tryz.prog W 0 (fun _ => true) true n 41 [c4] = some y4 := hf 4 _ rfl
  have t5' : DataW.trod enc Tryz.prog W 0 (fun _ => true) true n 42 [c5] = some y5 := hf 5 _ rfl
  obtain ⟨A, ca, names, rfl, hA0, hAc, hA, hx, hln⟩ := open_names t4'
  have hb : (ByteArray.mk b.data.toList.toArray) = b := by cases b; simp
  have hbl : b.data.toList.length ≤ maxLen := by rw [← ba_size]; exact w3
  rcases DataW.trod_slice Tryz.underlying42 t5' with ⟨hcs, -⟩ | ⟨a, len, cap, elems, rest, n', hn', hcs, -, -, hle, hm, hel, hi, -, -⟩
  · injection hcs with hcs
    subst hcs
    have := RepS.mk (S := fun b => b < W.heap.size) (w := W) k m e b.data.toList names [] A ca none 0 (fun _ => []) hA0 (fun _ => rfl) hAc (Nat.le_refl _) (int_in w0) (int_in w1) (int_in w2) hbl hA hx hln (Nat.zero_le _) (.inl rfl) (fun i x h => by simp at h)
    rw [hb] at this
    exact ⟨_, this⟩
  · injection hcs with hcs
    subst hcs
    rw [q4] at hi
    have key : ∀ i, i < len → ∃ p : VT × List Value, Rep W.heap.size W p.1 p.2 ∧ ∀ j u, p.2[j]? = some u → W.cell? (a.add (i * 6 + j)) = some u := by
      intro i hil
      have e := hi i hil
      rw [List.getElem?_eq_getElem (by omega)] at e
      obtain ⟨cs', hc, ht⟩ := Option.bind_eq_some_iff.1 e
      obtain ⟨-, hcl, hat⟩ := World.cells?_some hc
      obtain ⟨t, hr⟩ := ih n' (by omega) cs' _ ht
      refine ⟨(t, cs'), hr, fun j u hu => ?_⟩
      have hu' : cs'[j]? = some u := hu
      obtain ⟨hj, hu2⟩ := List.getElem?_eq_some_iff.1 hu'
      have h0 := hat j (by omega)
      rw [Go.Deep.add_add] at h0
      rw [h0]
      first | exact hu' | (rw [← hu2])
    obtain ⟨ps, hps, hpp⟩ := list_of_all len key
    have hll : (ps.map (·.1)).length = len := by simp [hps]
    have := RepS.mk (S := fun b => b < W.heap.size) (w := W) k m e b.data.toList names (ps.map (·.1)) A ca (some a) cap (fun i => (ps[i]?.map (·.2)).getD []) hA0 (fun h => by cases h) hAc (by rw [hll]; exact hle) (int_in w0) (int_in w1) (int_in w2) hbl hA hx hln (by omega)
      (by
        rcases Nat.eq_zero_or_pos len with h0 | h0
        · exact .inl (List.eq_nil_of_length_eq_zero (by omega))
        · obtain ⟨p0, hp0⟩ : ∃ t, ps[0]? = some t := ⟨_, List.getElem?_eq_getElem (by omega)⟩
          obtain ⟨r0, g0⟩ := hpp 0 p0 hp0
          obtain ⟨u0, hu0⟩ : ∃ u, p0.2[0]? = some u := ⟨_, List.getElem?_eq_getElem (by rw [r0.six]; omega)⟩
          have c0 := g0 0 u0 hu0
          have hsp := World.cell?_spot c0
          obtain ⟨bb, off, sp⟩ := a
          have hbb := cell_block c0
          obtain rfl : sp = none := by simpa [Addr.add] using hsp
          refine .inr ⟨bb, off, rfl, by simpa [Addr.add] using hbb, fun i x hx j u hu => ?_⟩
          rw [List.getElem?_map] at hx
          obtain ⟨p, hp, -⟩ := Option.map_eq_some_iff.1 hx
          rw [hp] at hu
          have := (hpp i p hp).2 j u hu
          rwa [add_off, ← Nat.add_assoc] at this)
      (by
        intro i x hx
        rw [List.getElem?_map] at hx
        obtain ⟨p, hp, rfl⟩ := Option.map_eq_some_iff.1 hx
        rw [hp]
        exact (hpp i p hp).1)
    rw [hb, hll] at this
    exact ⟨_, this⟩
end
end Go.Proofs.YtgdedcdjfljcnaaGreatDoor
namespace Go.Proofs.YtgdedcdjfljcnaaGreatDoor
open Go.RowKit

structure Sp where
  lo : Int
  hi : Int
deriving DecidableEq
def spCells : List Sp → List Value
  | [] => []
  | s :: t => .int .i64 s.lo :: .int .i64 s.hi :: spCells t
theorem spCells_length : ∀ l, (spCells l).length = l.length * 2
  | [] => rfl
  | s :: t => by rw [spCells, List.length_cons, List.length_cons, spCells_length t, List.length_cons]; omega
theorem spCells_get : ∀ (l : List Sp) (k : Nat) (s : Sp), l[k]? = some s → (spCells l)[k * 2]? = some (.int .i64 s.lo) ∧ (spCells l)[k * 2 + 1]? = some (.int .i64 s.hi)
  | [], k, s, h => by simp at h
  | g :: t, 0, s, h => by
    simp at h
    subst h
    exact ⟨rfl, rfl⟩
  | g :: t, k + 1, s, h => by
    have ih := spCells_get t k s (by simpa using h)
    have e : ∀ j, (spCells (g :: t))[(k + 1) * 2 + j]? = (spCells t)[k * 2 + j]? := fun j => by
      rw [spCells, (by omega : (k + 1) * 2 + j = (k * 2 + j) + 1 + 1), List.getElem?_cons_succ, List.getElem?_cons_succ]
    have e0 := e 0
    rw [Nat.add_zero, Nat.add_zero] at e0
    rw [e0, e 1]
    exact ih
theorem spCells_append : ∀ a b : List Sp, spCells (a ++ b) = spCells a ++ spCells b
  | [], b => rfl
  | s :: t, b => by rw [List.cons_append, spCells, spCells, spCells_append t b, List.cons_append, List.cons_append]
theorem spCells_one : ∀ (l : List Sp), ∀ u ∈ spCells l, u.oneCell' = true
  | [], u, h => by simp [spCells] at h
  | s :: t, u, h => by
    rw [spCells, List.mem_cons, List.mem_cons] at h
    rcases h with rfl | rfl | h
    · rfl
    · rfl
    · exact spCells_one t u h
theorem spCells_all : ∀ (l : List Sp) (u : Value), u ∈ spCells l → ∃ n, u = .int .i64 n
  | [], u, h => by simp [spCells] at h
  | s :: t, u, h => by
    rw [spCells, List.mem_cons, List.mem_cons] at h
    rcases h with rfl | rfl | h
    · exact ⟨_, rfl⟩
    · exact ⟨_, rfl⟩
    · exact spCells_all t u h
/-- A slice of spans, below a block. -/
def SpAt (B : Nat) (w : World) (A : Option Addr) (l : List Sp) : Prop :=
  l = [] ∨ ∃ b off, A = some ⟨b, off, none⟩ ∧ b < B ∧ ∀ j u, (spCells l)[j]? = some u → w.cell? ⟨b, off + j, none⟩ = some u
theorem SpAt.keep {B : Nat} {w w' : World} {A : Option Addr} {l : List Sp} (h : SpAt B w A l) (hf : Below B w w') : SpAt B w' A l := by
  rcases h with h | ⟨b, off, h1, h2, h3⟩
  · exact .inl h
  · exact .inr ⟨b, off, h1, h2, fun j u hu => (hf.cell (p := ⟨b, off + j, none⟩) h2).trans (h3 j u hu)⟩
theorem SpAt.mono {B B' : Nat} {w : World} {A : Option Addr} {l : List Sp} (h : SpAt B w A l) (hB : B ≤ B') : SpAt B' w A l := by
  rcases h with h | ⟨b, off, h1, h2, h3⟩
  · exact .inl h
  · exact .inr ⟨b, off, h1, Nat.lt_of_lt_of_le h2 hB, h3⟩
theorem SpAt.item {B : Nat} {w : World} {A : Option Addr} {l : List Sp} (h : SpAt B w A l) {k : Nat} {s : Sp} (hk : l[k]? = some s) :
    ∃ b off, A = some ⟨b, off, none⟩ ∧ b < B ∧ w.cell? ⟨b, off + k * 2, none⟩ = some (.int .i64 s.lo) ∧ w.cell? ⟨b, off + k * 2 + 1, none⟩ = some (.int .i64 s.hi) := by
  rcases h with rfl | ⟨b, off, h1, h2, h3⟩
  · simp at hk
  · obtain ⟨c0, c1⟩ := spCells_get l k s hk
    exact ⟨b, off, h1, h2, h3 _ _ c0, h3 _ _ c1⟩

theorem SpAt.cells {B b off : Nat} {w : World} {l : List Sp} (h : SpAt B w (some ⟨b, off, none⟩) l) {k : Nat} {s : Sp} (hk : l[k]? = some s) :
    w.cell? ⟨b, off + k * 2, none⟩ = some (.int .i64 s.lo) ∧ w.cell? ⟨b, off + k * 2 + 1, none⟩ = some (.int .i64 s.hi) := by
  obtain ⟨b', off', hA, -, c0, c1⟩ := h.item hk
  injection hA with hA
  injection hA with h1 h2
  subst h1; subst h2
  exact ⟨c0, c1⟩

/-- A number is in one of some spans. -/
def inB (l : List Sp) (n : Int) : Bool := l.any fun s => decide (s.lo ≤ n ∧ n ≤ s.hi)
theorem in_no (l : List Sp) (n : Int) (h : ∀ i s, i < l.length → l[i]? = some s → ¬ (s.lo ≤ n ∧ n ≤ s.hi)) : inB l n = false := by
  unfold inB
  rw [List.any_eq_false]
  intro s hs
  obtain ⟨i, hi, rfl⟩ := List.getElem_of_mem hs
  simpa using h i _ hi (List.getElem?_eq_getElem hi)
theorem in_yes (l : List Sp) (n : Int) (m : Nat) (s : Sp) (hs : l[m]? = some s) (h : s.lo ≤ n ∧ n ≤ s.hi) : inB l n = true := by
  unfold inB
  rw [List.any_eq_true]
  exact ⟨s, List.mem_of_getElem? hs, decide_eq_true h⟩
theorem in_step (l : List Sp) (n : Int) (m : Nat) (s : Sp) (hs : l[m]? = some s) (hm : ¬ (s.lo ≤ n ∧ n ≤ s.hi)) (h : ∀ i s, i < m → l[i]? = some s → ¬ (s.lo ≤ n ∧ n ≤ s.hi)) : ∀ i s, i < m + 1 → l[i]? = some s → ¬ (s.lo ≤ n ∧ n ≤ s.hi) := by
  intro i y hi hy
  rcases Nat.lt_or_ge i m with h1 | h1
  · exact h i y h1 hy
  · obtain rfl : i = m := by omega
    rw [hs] at hy; injection hy with hy; subst hy; exact hm

theorem within_any (n a b : Int) (w : World) :
    Calls Tryz.prog 6 #[.int .i64 n, .int .i64 a, .int .i64 b] w fun e w' => e = .returned (.bool (decide (a ≤ n ∧ n ≤ b))) ∧ w = w' := by
  go_enter Tryz.func6, Tryz.ntmps6
  go_wp2
  all_goals (go_ret; exact ⟨ret_bool (by rw [Bool.eq_iff_iff]; simp <;> omega), rfl⟩)
theorem wholeNumbers_any (w : World) :
    Calls Tryz.prog 47 #[] w fun e w' => e = .returned (.agg #[.int .i64 (-1152921504606846976), .int .i64 1152921504606846976]) ∧ Fr w.heap.size w w' := by
  have hf := Fr.self w
  go_enter Tryz.func47, Tryz.ntmps47
  go_wp2
  exact bodyPost_ret (v := .agg #[.int .i64 (-1152921504606846976), .int .i64 1152921504606846976]) (by simp [results, Tryz.results47, go_sem]) rfl ⟨rfl, hf.alloc _⟩
/-- A span has numbers, all of which are in another one. -/
def withinB (s t : Sp) : Bool := decide (s.lo ≤ s.hi ∧ t.lo ≤ s.lo ∧ s.hi ≤ t.hi)
theorem isWithin_any (s t : Sp) (w : World) :
    Calls Tryz.prog 57 #[.agg #[.int .i64 s.lo, .int .i64 s.hi], .agg #[.int .i64 t.lo, .int .i64 t.hi]] w fun e w' => e = .returned (.bool (withinB s t)) ∧ Fr w.heap.size w w' := by
  obtain ⟨a, b⟩ := s
  obtain ⟨c, d⟩ := t
  simp only
  have hf := ((Fr.self w).alloc (.cells #[.int .i64 a, .int .i64 b] 55)).alloc (.cells #[.int .i64 c, .int .i64 d] 55)
  have hv : withinB ⟨a, b⟩ ⟨c, d⟩ = decide (a ≤ b ∧ c ≤ a ∧ b ≤ d) := rfl
  generalize withinB ⟨a, b⟩ ⟨c, d⟩ = r at *
  have Hv := Lib.hid hv
  clear hv
  go_enter Tryz.func57, Tryz.ntmps57
  go_wp2_with fail
  all_goals (go_ret; exact ⟨ret_bool (by rw [Hv.out, Bool.eq_iff_iff]; simp <;> omega), hf⟩)
/-- A number is in what an operation makes of two sets. -/
def isInB (op : Int) (x y : Bool) : Bool := if op = 0 then x || y else if op = 1 then x && y else x && !y
theorem isIn_any (op : Int) (x y : Bool) (w : World) :
    Calls Tryz.prog 61 #[.int .i64 op, .bool x, .bool y] w fun e w' => e = .returned (.bool (isInB op x y)) ∧ w = w' := by
  have hv : isInB op x y = if op = 0 then x || y else if op = 1 then x && y else x && !y := rfl
  generalize isInB op x y = r at *
  have Hv := Lib.hid hv
  clear hv
  go_enter Tryz.func61, Tryz.ntmps61
  go_wp2_with fail
  all_goals
    go_ret
    exact ⟨ret_bool (by rw [Hv.out]; cases x <;> cases y <;> simp_all), rfl⟩
set_option maxRecDepth 20000 in
theorem has_any {B : Nat} (l : List Sp) (n : Int) (A : Option Addr) (ca : Nat) (w : World) (h : SpAt B w A l) (hB : B ≤ w.heap.size) (hm : l.length ≤ 100000) :
    Calls Tryz.prog 53 #[.slice A l.length ca, .int .i64 n] w fun e w' => e = .returned (.bool (inB l n)) ∧ Fr w.heap.size w w' := by
  have H := Lib.hid h
  have hf := Fr.self w
  clear h
  go_enter Tryz.func53, Tryz.ntmps53
  go_wp2_with fail
  go_loopw [9] (fun i wr => ∃ m : Nat, m ≤ l.length ∧ i = .int .i64 m ∧ Hid (∀ i s, i < m → l[i]? = some s → ¬ (s.lo ≤ n ∧ n ≤ s.hi)) ∧ Fr w.heap.size w wr) (fun i _ => l.length - (intOf i).toNat)
  case atStart => exact ⟨0, by omega, by go_num, fun i y h => absurd h (Nat.not_lt_zero _), hf⟩
  case round =>
    obtain ⟨m, hml, rfl, HR, hfr⟩ := hrel
    by_cases hlt : m < l.length
    · obtain ⟨s, hs⟩ : ∃ s, l[m]? = some s := ⟨_, List.getElem?_eq_getElem hlt⟩
      obtain ⟨b, off, rfl, -, c0, c1⟩ := (H.out.keep (w' := wr) (hfr.2.mono hB)).item hs
      have hmn : (0 : Int) ≤ m := by omega
      have hmm : (m : Int) < l.length := by omega
      by_cases hin : s.lo ≤ n ∧ n ≤ s.hi
      · have Hv := Lib.hid (in_yes l n m s hs hin)
        obtain ⟨h1, h2⟩ := hin
        clear hs
        go_wp2_with fail
        go_ret
        exact ⟨ret_bool Hv.out.symm, hfr.alloc _⟩
      · have Hst := Lib.hid (in_step l n m s hs hin HR.out)
        clear hs
        go_wp2_with fail
        all_goals first
          | (exfalso; omega)
          | (go_roundw
             case rel => exact ⟨m + 1, by omega, by go_num, Hst, hfr.alloc _⟩
             case measure => simp [intOf] <;> omega)
    · have Hv := Lib.hid (in_no l n (fun i s hi hs => HR.out i s (by omega) hs))
      go_wp2_with fail
      go_ret
      exact ⟨ret_bool Hv.out.symm, hfr⟩
end Go.Proofs.YtgdedcdjfljcnaaGreatDoor
namespace Go.Proofs.YtgdedcdjfljcnaaGreatDoor
open Go.RowKit

/-- A tag. -/
structure TG where
  cls : Int
  num : Int
  way : Int
/-- A node of a constraint. -/
structure LN where
  kind : Int
  lo : Int
  hi : Int
  text : List UInt8
  args : List Int
/-- A field without its type. -/
structure FD where
  name : List UInt8
  num : Int
  pres : Int
  dflt : List VT
  grp : Int
/-- A type of the document: the fields' types stand beside the fields. -/
inductive TyT where
  | mk (kind : Int) (name : List UInt8) (tags : List TG) (fds : List FD) (fts : List TyT) (opn : Bool) (root : Int) (of : List TyT) (lims : List LN)
theorem TyT.ind {motive : TyT → Prop} (h : ∀ k n t fd ft o r f l, (∀ x ∈ ft, motive x) → (∀ x ∈ f, motive x) → motive (.mk k n t fd ft o r f l)) : ∀ x, motive x
  | .mk k n t fd ft o r f l => h k n t fd ft o r f l (fun x _ => TyT.ind h x) (fun x _ => TyT.ind h x)
decreasing_by
  all_goals simp_wf
  all_goals (have := List.sizeOf_lt_of_mem ‹x ∈ _›; omega)

/-- Rows of so many cells in memory, in a block of a kind. -/
def RowsS (S : Nat → Prop) (w : World) (k : Nat) (A : Option Addr) (n : Nat) (C : Nat → List Value) : Prop :=
  n = 0 ∨ ∃ b off, A = some ⟨b, off, none⟩ ∧ S b ∧ ∀ i, i < n → ∀ j u, (C i)[j]? = some u → w.cell? ⟨b, off + i * k + j, none⟩ = some u
theorem RowsS.keep {S T : Nat → Prop} {w w' : World} {k : Nat} {A : Option Addr} {n : Nat} {C : Nat → List Value} (h : RowsS S w k A n C) (hb : Stay S w w') (hT : ∀ b, S b → T b) : RowsS T w' k A n C := by
  rcases h with h | ⟨b, off, h1, h2, h3⟩
  · exact .inl h
  · exact .inr ⟨b, off, h1, hT b h2, fun i hi j u hu => (hb.cell (p := ⟨b, off + i * k + j, none⟩) h2).trans (h3 i hi j u hu)⟩
/-- A slice as Go has them: nothing lies behind no address, and no more than there is room for. -/
def SliceOk (A : Option Addr) (n c : Nat) : Prop := (A = none → c = 0) ∧ n ≤ c ∧ n ≤ maxLen
def TG.cells (t : TG) : List Value := [.int .i64 t.cls, .int .i64 t.num, .int .i64 t.way]
def TG.ok (t : TG) : Prop := InI t.cls ∧ InI t.num ∧ InI t.way
def itemCells {α : Type} (f : α → List Value) (l : List α) (i : Nat) : List Value := (l[i]?.map f).getD []
/-- A node of a constraint, its own five cells being these. -/
def NodeS (S : Nat → Prop) (w : World) (x : LN) (cs : List Value) : Prop :=
  ∃ A ca, cs = [.int .i64 x.kind, .int .i64 x.lo, .int .i64 x.hi, .string ⟨x.text.toArray⟩, .slice A x.args.length ca] ∧ SliceOk A x.args.length ca ∧ RowsS S w 1 A x.args.length (itemCells (fun a => [.int .i64 a]) x.args) ∧
    (InI x.kind ∧ InI x.lo ∧ InI x.hi ∧ x.text.length ≤ maxLen) ∧ ∀ a ∈ x.args, InI a
theorem NodeS.keep {S T : Nat → Prop} {w w' : World} {x : LN} {cs : List Value} (h : NodeS S w x cs) (hb : Stay S w w') (hT : ∀ b, S b → T b) : NodeS T w' x cs := by
  obtain ⟨A, ca, h1, h2, h3, h4⟩ := h
  exact ⟨A, ca, h1, h2, h3.keep hb hT, h4⟩
/-- A field's own parts, its type's cells being given. -/
def FieldS (S : Nat → Prop) (w : World) (d : FD) (ty cs : List Value) : Prop :=
  ∃ D cd CV, cs = [.string ⟨d.name.toArray⟩, .int .i64 d.num] ++ ty ++ [.int .i64 d.pres, .slice D d.dflt.length cd, .int .i64 d.grp] ∧ SliceOk D d.dflt.length cd ∧ RowsS S w 6 D d.dflt.length CV ∧ (∀ i v, d.dflt[i]? = some v → RepS S w v (CV i)) ∧
    (d.name.length ≤ maxLen ∧ InI d.num ∧ InI d.pres ∧ InI d.grp)
theorem FieldS.keep {S T : Nat → Prop} {w w' : World} {d : FD} {ty cs : List Value} (h : FieldS S w d ty cs) (hb : Stay S w w') (hT : ∀ b, S b → T b) : FieldS T w' d ty cs := by
  obtain ⟨D, cd, CV, h1, h2, h3, h4, h5⟩ := h
  exact ⟨D, cd, CV, h1, h2, h3.keep hb hT, fun i v hv => RepS.keep hb hT (h4 i v hv), h5⟩
/-- A tree of types lies in blocks of a kind, its own eight cells being these. -/
inductive RepT (S : Nat → Prop) (w : World) : TyT → List Value → Prop
  | mk (k : Int) (name : List UInt8) (tags : List TG) (fds : List FD) (fts : List TyT) (opn : Bool) (root : Int) (of : List TyT) (lims : List LN) (A1 : Option Addr) (c1 : Nat) (A2 : Option Addr) (c2 : Nat) (A3 : Option Addr) (c3 : Nat) (A4 : Option Addr) (c4 : Nat)
      (CF CT CO CL : Nat → List Value)
      (h1 : SliceOk A1 tags.length c1) (h2 : SliceOk A2 fds.length c2) (h3 : SliceOk A3 of.length c3) (h4 : SliceOk A4 lims.length c4) (hft : fts.length = fds.length) (hk : InI k) (hroot : InI root) (hname : name.length ≤ maxLen)
      (hT : RowsS S w 3 A1 tags.length (itemCells TG.cells tags)) (hTo : ∀ t ∈ tags, t.ok)
      (hF : RowsS S w 13 A2 fds.length CF) (hFd : ∀ i d, fds[i]? = some d → FieldS S w d (CT i) (CF i)) (hFt : ∀ i x, fts[i]? = some x → RepT S w x (CT i))
      (hO : RowsS S w 8 A3 of.length CO) (hOt : ∀ i x, of[i]? = some x → RepT S w x (CO i))
      (hL : RowsS S w 5 A4 lims.length CL) (hLn : ∀ i x, lims[i]? = some x → NodeS S w x (CL i)) :
      RepT S w (.mk k name tags fds fts opn root of lims) [.int .i64 k, .string ⟨name.toArray⟩, .slice A1 tags.length c1, .slice A2 fds.length c2, .bool opn, .int .i64 root, .slice A3 of.length c3, .slice A4 lims.length c4]
theorem RepT.eight {S : Nat → Prop} {w : World} {x : TyT} {cs : List Value} (h : RepT S w x cs) : cs.length = 8 := by cases h; rfl
theorem RepT.keep {S T : Nat → Prop} {w w' : World} (hb : Stay S w w') (hT : ∀ b, S b → T b) : ∀ {x : TyT} {cs : List Value}, RepT S w x cs → RepT T w' x cs := by
  intro x cs h
  induction h with
  | mk k name tags fds fts opn root of lims A1 c1 A2 c2 A3 c3 A4 c4 CF CT CO CL h1 h2 h3 h4 hft hk hroot hname hT' hTo hF hFd hFt hO hOt hL hLn ih1 ih2 =>
    exact .mk k name tags fds fts opn root of lims A1 c1 A2 c2 A3 c3 A4 c4 CF CT CO CL h1 h2 h3 h4 hft hk hroot hname (hT'.keep hb hT) hTo (hF.keep hb hT) (fun i d hd => (hFd i d hd).keep hb hT) ih1 (hO.keep hb hT) ih2 (hL.keep hb hT) (fun i x hx => (hLn i x hx).keep hb hT)
abbrev RepTy (B : Nat) := RepT (fun b => b < B)
theorem RepTy.keep {B : Nat} {w w' : World} (hb : Below B w w') {x : TyT} {cs : List Value} (h : RepTy B w x cs) : RepTy B w' x cs := RepT.keep (Below.stay hb) (fun _ h => h) h
theorem RepTy.mono {B B' : Nat} {w : World} (hB : B ≤ B') {x : TyT} {cs : List Value} (h : RepTy B w x cs) : RepTy B' w x cs := RepT.keep (fun _ _ => rfl) (fun _ h => Nat.lt_of_lt_of_le h hB) h

section
variable {H : Type} {enc : TypeId × Value → H} {W : World}
/-- A slice of rows, opened: each row is what its cells are read as. -/
theorem open_rows {t e : TypeId} {k : Nat} (ht : Tryz.prog.underlying t = some (.slice e)) (ce : Tryz.prog.cellsOf e = k) (hk : 0 < k) {fuel : Nat} {c : Value} {x : DataW H × List MemPlace} (h : DataW.trod enc Tryz.prog W 0 (fun _ => true) true fuel t [c] = some x)
    {α : Type} (R : α → List Value → Prop) (hR : ∀ a cs, R a cs → cs.length = k) (step : ∀ fuel', fuel' < fuel → ∀ cs' x', DataW.trod enc Tryz.prog W 0 (fun _ => true) true fuel' e cs' = some x' → ∃ a, R a cs') :
    ∃ (A : Option Addr) (cap : Nat) (l : List α) (C : Nat → List Value), c = .slice A l.length cap ∧ SliceOk A l.length cap ∧ (∀ i y, l[i]? = some y → R y (C i)) ∧ RowsS (fun b => b < W.heap.size) W k A l.length C := by
  rcases DataW.trod_slice ht h with ⟨hcs, -⟩ | ⟨a, len, cap, elems, rest, n', hn', hcs, -, -, hle, hm, hel, hi, -, -⟩
  · injection hcs with hcs
    exact ⟨none, 0, [], fun _ => [], hcs, ⟨fun _ => rfl, Nat.le_refl _, Nat.zero_le _⟩, fun i y h => by simp at h, .inl rfl⟩
  · injection hcs with hcs
    rw [ce] at hi
    have key : ∀ i, i < len → ∃ p : α × List Value, R p.1 p.2 ∧ ∀ j u, p.2[j]? = some u → W.cell? (a.add (i * k + j)) = some u := by
      intro i hil
      have e := hi i hil
      rw [List.getElem?_eq_getElem (by omega)] at e
      obtain ⟨cs', hc, ht⟩ := Option.bind_eq_some_iff.1 e
      obtain ⟨-, hcl, hat⟩ := World.cells?_some hc
      obtain ⟨y, hr⟩ := step n' (by omega) cs' _ ht
      refine ⟨(y, cs'), hr, fun j u hu => ?_⟩
      have hu' : cs'[j]? = some u := hu
      obtain ⟨hj, hu2⟩ := List.getElem?_eq_some_iff.1 hu'
      have h0 := hat j (by omega)
      rw [Go.Deep.add_add] at h0
      rw [h0]
      first | exact hu' | (rw [← hu2])
    obtain ⟨ps, hps, hpp⟩ := list_of_all len key
    have hll : (ps.map (·.1)).length = len := by simp [hps]
    refine ⟨some a, cap, ps.map (·.1), fun i => (ps[i]?.map (·.2)).getD [], by rw [hll]; exact hcs, ⟨fun h => (by cases h), by omega, by omega⟩, ?_, ?_⟩
    · intro i y hy
      rw [List.getElem?_map] at hy
      obtain ⟨p, hp, rfl⟩ := Option.map_eq_some_iff.1 hy
      dsimp only
      rw [hp]
      exact (hpp i p hp).1
    · rcases Nat.eq_zero_or_pos len with h0 | h0
      · exact .inl (by omega)
      · obtain ⟨p0, hp0⟩ : ∃ t, ps[0]? = some t := ⟨_, List.getElem?_eq_getElem (by omega)⟩
        obtain ⟨r0, g0⟩ := hpp 0 p0 hp0
        obtain ⟨u0, hu0⟩ : ∃ u, p0.2[0]? = some u := ⟨_, List.getElem?_eq_getElem (by rw [hR _ _ r0]; exact hk)⟩
        have c0 := g0 0 u0 hu0
        have hsp := World.cell?_spot c0
        obtain ⟨bb, off, sp⟩ := a
        have hbb := cell_block c0
        obtain rfl : sp = none := by simpa [Addr.add] using hsp
        refine .inr ⟨bb, off, rfl, by simpa [Addr.add] using hbb, fun i hi j u hu => ?_⟩
        obtain ⟨p, hp⟩ : ∃ p, ps[i]? = some p := ⟨_, List.getElem?_eq_getElem (by omega)⟩
        dsimp only at hu
        rw [hp] at hu
        have := (hpp i p hp).2 j u hu
        rwa [add_off, ← Nat.add_assoc] at this
end
end Go.Proofs.YtgdedcdjfljcnaaGreatDoor
