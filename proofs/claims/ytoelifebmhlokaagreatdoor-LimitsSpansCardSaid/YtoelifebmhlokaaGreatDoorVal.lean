/- Values as trees, how they lie in memory, and that whatever a call is handed is such a tree. -/
import Derived.Test.YtoelifebmhlokaaGreatDoorHelp
import Derived.Test.YtoelifebmhlokaaGreatDoorProg
import Derived.Deep.Slices
import Derived.Deep.Strs
import Derived.Carry
import Derived.ChangeArms
import Derived.Laws.World
namespace Go.Proofs.YtoelifebmhlokaaGreatDoor
open Go.RowKit

/-- A value of the document: kind, two numbers, a string, names, and the values within it. -/
inductive VT where
  | mk (kind n e : Int) (s : List UInt8) (names : List (List UInt8)) (items : List VT)
def VT.items : VT → List VT | .mk _ _ _ _ _ l => l
def VT.names : VT → List (List UInt8) | .mk _ _ _ _ l _ => l
def VT.kind : VT → Int | .mk k _ _ _ _ _ => k
def VT.num : VT → Int | .mk _ n _ _ _ _ => n
def VT.exp : VT → Int | .mk _ _ e _ _ _ => e
def VT.str : VT → List UInt8 | .mk _ _ _ s _ _ => s

/-- An int. -/
def InI (n : Int) : Prop := -9223372036854775808 ≤ n ∧ n ≤ 9223372036854775807
/-- Names lie in blocks of a kind. -/
def NamesS (S : Nat → Prop) (w : World) (A : Option Addr) (ws : List (List UInt8)) : Prop :=
  ws = [] ∨ ∃ b off, A = some ⟨b, off, none⟩ ∧ S b ∧ ∀ j x, ws[j]? = some x → w.cell? ⟨b, off + j, none⟩ = some (.string ⟨x.toArray⟩)
/-- A tree lies in blocks of a kind, its own six cells being these. -/
inductive RepS (S : Nat → Prop) (w : World) : VT → List Value → Prop
  | mk (k n e : Int) (s : List UInt8) (names : List (List UInt8)) (items : List VT) (A : Option Addr) (ca : Nat) (D : Option Addr) (cb : Nat) (C : Nat → List Value) (hA0 : A = none → ca = 0) (hD0 : D = none → cb = 0) (hAc : names.length ≤ ca) (hDc : items.length ≤ cb)
      (hk : InI k) (hn : InI n) (he : InI e) (hs : s.length ≤ maxLen) (hA : NamesS S w A names) (hx : ∀ x ∈ names, x.length ≤ maxLen) (hln : names.length ≤ maxLen) (hli : items.length ≤ maxLen)
      (hi : items = [] ∨ ∃ b off, D = some ⟨b, off, none⟩ ∧ S b ∧ ∀ i x, items[i]? = some x → ∀ j u, (C i)[j]? = some u → w.cell? ⟨b, off + i * 6 + j, none⟩ = some u)
      (hr : ∀ i x, items[i]? = some x → RepS S w x (C i)) :
      RepS S w (.mk k n e s names items) [.int .i64 k, .int .i64 n, .int .i64 e, .string ⟨s.toArray⟩, .slice A names.length ca, .slice D items.length cb]
/-- .. below a block. -/
abbrev NamesAt (B : Nat) := NamesS (fun b => b < B)
abbrev Rep (B : Nat) := RepS (fun b => b < B)

/-- Blocks of a kind are as they were. -/
def Stay (S : Nat → Prop) (w w' : World) : Prop := ∀ b, S b → w'.heap[b]? = w.heap[b]?
theorem Stay.cell {S : Nat → Prop} {w w' : World} (h : Stay S w w') {p : Addr} (hp : S p.block) : w'.cell? p = w.cell? p := World.cell?_of_block (w := w) (h p.block hp)
theorem NamesS.keep {S T : Nat → Prop} {w w' : World} {A : Option Addr} {ws : List (List UInt8)} (h : NamesS S w A ws) (hb : Stay S w w') (hT : ∀ b, S b → T b) : NamesS T w' A ws := by
  rcases h with h | ⟨b, off, h1, h2, h3⟩
  · exact .inl h
  · exact .inr ⟨b, off, h1, hT b h2, fun j x hx => (hb.cell (p := ⟨b, off + j, none⟩) h2).trans (h3 j x hx)⟩
theorem RepS.keep {S T : Nat → Prop} {w w' : World} (hb : Stay S w w') (hT : ∀ b, S b → T b) : ∀ {x : VT} {cs : List Value}, RepS S w x cs → RepS T w' x cs := by
  intro x cs h
  induction h with
  | mk k n e s names items A ca D cb C hA0 hD0 hAc hDc hk hn he hs hA hx hln hli hi hr ih =>
    refine .mk k n e s names items A ca D cb C hA0 hD0 hAc hDc hk hn he hs (hA.keep hb hT) hx hln hli ?_ ih
    rcases hi with hi | ⟨b, off, h1, h2, h3⟩
    · exact .inl hi
    · exact .inr ⟨b, off, h1, hT b h2, fun i x hx j u hu => (hb.cell (p := ⟨b, off + i * 6 + j, none⟩) h2).trans (h3 i x hx j u hu)⟩
theorem Below.stay {B : Nat} {w w' : World} (h : Below B w w') : Stay (fun b => b < B) w w' := fun b hb => h.block b hb
theorem NamesAt.below {B : Nat} {w w' : World} {A : Option Addr} {ws : List (List UInt8)} (h : NamesAt B w A ws) (hb : Below B w w') : NamesAt B w' A ws := NamesS.keep h (Below.stay hb) fun _ h => h
theorem Rep.keep {B : Nat} {w w' : World} (hb : Below B w w') {x : VT} {cs : List Value} (h : Rep B w x cs) : Rep B w' x cs := RepS.keep (Below.stay hb) (fun _ h => h) h
theorem Rep.mono {B B' : Nat} {w : World} (hB : B ≤ B') {x : VT} {cs : List Value} (h : Rep B w x cs) : Rep B' w x cs := RepS.keep (fun _ _ => rfl) (fun _ h => Nat.lt_of_lt_of_le h hB) h
theorem RepS.six {S : Nat → Prop} {w : World} {x : VT} {cs : List Value} (h : RepS S w x cs) : cs.length = 6 := by cases h; rfl

/-- Each index of a list has what it wants: then there is a list of them. -/
theorem list_of_all {α : Type} {p : Nat → α → Prop} : ∀ (n : Nat), (∀ i, i < n → ∃ x, p i x) → ∃ l : List α, l.length = n ∧ ∀ i x, l[i]? = some x → p i x
  | 0, _ => ⟨[], rfl, fun i x h => by simp at h⟩
  | n + 1, h => by
    obtain ⟨l, hl, hp⟩ := list_of_all n (fun i hi => h i (by omega))
    obtain ⟨x, hx⟩ := h n (by omega)
    refine ⟨l ++ [x], by simp [hl], fun i y hy => ?_⟩
    rw [List.getElem?_append] at hy
    split at hy
    · exact hp i y hy
    · rename_i hge
      have : i = n := by
        have := (List.getElem?_eq_some_iff.1 hy).1
        simp at this; omega
      subst this
      simp [hl] at hy
      subst hy; exact hx

theorem add_off (b off j : Nat) : (({ block := b, off := off, spot := none } : Addr).add j) = ⟨b, off + j, none⟩ := by
  unfold Addr.add
  by_cases hj : j = 0 <;> simp [hj]
theorem cell_block {w : World} {p : Addr} {v : Value} (h : w.cell? p = some v) : p.block < w.heap.size := by
  rcases Nat.lt_or_ge p.block w.heap.size with h' | h'
  · exact h'
  · simp [World.cell?, Array.getElem?_eq_none h'] at h
theorem int_in {n : Int} (h : (Lit.int .i64 n).wf = true) : InI n := by
  have h1 : IntKind.i64.min = -9223372036854775808 := by kernel_rfl
  have h2 : IntKind.i64.max = 9223372036854775807 := by kernel_rfl
  have h' : (decide (IntKind.i64.min ≤ n) && decide (n ≤ IntKind.i64.max)) = true := h
  rw [h1, h2, Bool.and_eq_true, decide_eq_true_eq, decide_eq_true_eq] at h'
  exact h'

section
variable {H : Type} {enc : TypeId × Value → H} {W : World}
theorem open_names {fuel : Nat} {c : Value} {x : DataW H × List MemPlace} (h : DataW.trod enc Tryz.prog W 0 (fun _ => true) true fuel 47 [c] = some x) :
    ∃ A cap names, c = .slice A (names : List (List UInt8)).length cap ∧ (A = none → cap = 0) ∧ names.length ≤ cap ∧ NamesAt W.heap.size W A names ∧ (∀ x ∈ names, x.length ≤ maxLen) ∧ names.length ≤ maxLen := by
  have q1 : Tryz.prog.cellsOf 9 = 1 := by kernel_rfl
  rcases DataW.trod_slice Tryz.underlying47 h with ⟨hcs, -⟩ | ⟨a, len, cap, elems, rest, n, -, hcs, -, -, hle, hm, hel, hi, -, -⟩
  · injection hcs with hcs
    exact ⟨none, 0, [], hcs, fun _ => rfl, Nat.le_refl _, .inl rfl, fun x h => by simp at h, Nat.zero_le _⟩
  · injection hcs with hcs
    rw [q1] at hi
    have key : ∀ i, i < len → ∃ t : List UInt8, W.cell? (a.add i) = some (.string ⟨t.toArray⟩) ∧ t.length ≤ maxLen := by
      intro i hil
      have e := hi i hil
      rw [List.getElem?_eq_getElem (by omega)] at e
      obtain ⟨cs', hc, ht⟩ := Option.bind_eq_some_iff.1 e
      obtain ⟨-, hcl, hat⟩ := World.cells?_some hc
      obtain ⟨b, rfl, -, wb⟩ := DataW.trod_string Tryz.underlying9 ht
      have h0 := hat 0 (by omega)
      rw [Go.Deep.add_add, Nat.mul_one, Nat.add_zero] at h0
      refine ⟨b.data.toList, ?_, ?_⟩
      · have : (ByteArray.mk b.data.toList.toArray) = b := by cases b; simp
        rw [this]; exact h0
      · rw [← ba_size]; exact wb
    obtain ⟨ts, hlen, hts⟩ := list_of_all len key
    refine ⟨some a, cap, ts, by rw [hlen]; exact hcs, fun h => (by cases h), by omega, ?_, ?_, by omega⟩
    · rcases Nat.eq_zero_or_pos len with h0 | h0
      · exact .inl (List.eq_nil_of_length_eq_zero (by omega))
      · obtain ⟨t0, ht0⟩ : ∃ t, ts[0]? = some t := ⟨_, List.getElem?_eq_getElem (by omega)⟩
        have c0 := (hts 0 t0 ht0).1
        have hsp := World.cell?_spot c0
        obtain ⟨b, off, sp⟩ := a
        have hb := cell_block c0
        obtain rfl : sp = none := by simpa [Addr.add] using hsp
        refine .inr ⟨b, off, rfl, by simpa [Addr.add] using hb, fun j x hx => ?_⟩
        have := (hts j x hx).1
        rwa [add_off] at this
    · intro x hx
      obtain ⟨i, hi⟩ := List.mem_iff_getElem?.1 hx
      exact (hts i x hi).2

set_option maxRecDepth 100000 in
theorem open_val : ∀ (fuel : Nat) (cs : List Value) (x : DataW H × List MemPlace), DataW.trod enc Tryz.prog W 0 (fun _ => true) true fuel 50 cs = some x → ∃ t, Rep W.heap.size W t cs := by
  intro fuel
  induction fuel using Nat.strongRecOn with
  | _ fuel ih =>
  intro cs x h
  have q4 : Tryz.prog.cellsOf 50 = 6 := by kernel_rfl
  obtain ⟨xs, n, rfl, -, hl, hlen, hf⟩ := DataW.trod_struct Tryz.underlying50 h
  rw [q4] at hl
  obtain ⟨c0, c1, c2, c3, c4, c5, rfl⟩ : ∃ c0 c1 c2 c3 c4 c5, cs = [c0, c1, c2, c3, c4, c5] := by
    match cs, hl with
    | [c0, c1, c2, c3, c4, c5], _ => exact ⟨c0, c1, c2, c3, c4, c5, rfl⟩
  obtain ⟨y0, y1, y2, y3, y4, y5, rfl⟩ : ∃ y0 y1 y2 y3 y4 y5, xs = [y0, y1, y2, y3, y4, y5] := by
    match xs, hlen with
    | [y0, y1, y2, y3, y4, y5], _ => exact ⟨y0, y1, y2, y3, y4, y5, rfl⟩
  have t0 : DataW.trod enc Tryz.prog W 0 (fun _ => true) true n 3 [c0] = some y0 := hf 0 _ rfl
  have t1 : DataW.trod enc Tryz.prog W 0 (fun _ => true) true n 3 [c1] = some y1 := hf 1 _ rfl
  have t2 : DataW.trod enc Tryz.prog W 0 (fun _ => true) true n 3 [c2] = some y2 := hf 2 _ rfl
  have t3 : DataW.trod enc Tryz.prog W 0 (fun _ => true) true n 9 [c3] = some y3 := hf 3 _ rfl
  obtain ⟨k, e0, -, w0⟩ := DataW.trod_int Tryz.underlying3 t0
  obtain ⟨m, e1, -, w1⟩ := DataW.trod_int Tryz.underlying3 t1
  obtain ⟨e, e2, -, w2⟩ := DataW.trod_int Tryz.underlying3 t2
  obtain ⟨b, e3, -, w3⟩ := DataW.trod_string Tryz.underlying9 t3
  injection e0 with e0; injection e1 with e1; injection e2 with e2; injection e3 with e3
  subst e0; subst e1; subst e2; subst e3
  have t4' : DataW.trod enc Tryz.prog W 0 (fun _ => true) true n 47 [c4] = some y4 := hf 4 _ rfl
  have t5' : DataW.trod enc Tryz.prog W 0 (fun _ => true) true n 48 [c5] = some y5 := hf 5 _ rfl
  obtain ⟨A, ca, names, rfl, hA0, hAc, hA, hx, hln⟩ := open_names t4'
  have hb : (ByteArray.mk b.data.toList.toArray) = b := by cases b; simp
  have hbl : b.data.toList.length ≤ maxLen := by rw [← ba_size]; exact w3
  rcases DataW.trod_slice Tryz.underlying48 t5' with ⟨hcs, -⟩ | ⟨a, len, cap, elems, rest, n', hn', hcs, -, -, hle, hm, hel, hi, -, -⟩
  · injection hcs with hcs
    subst hcs
    have := RepS.mk (S := fun b => b < W.heap.size) (w := W) k m e b.data.toList names [] A ca none 0 (fun _ => []) hA0 (fun _ => rfl) hAc (Nat.le_refl _) (int_in w0) (int_in w1) (int_in w2) hbl hA hx hln (Nat.zero_le _) (.inl rfl) (fun i x h => by simp at h)
    rw [hb] at this
    exact ⟨_, this⟩
  · injection hcs with hcs
    subst hcs
    rw [q4] at hi
    have key : ∀ i, i < len → ∃ p : VT × List Value, Rep W.heap.size W p.1 p.2 ∧ ∀ j u, p.2[j]? = some u → W.cell? (a.add (i * 6 + j)) = some u := by
      intro i hil
      have e := hi i hil
      rw [List.getElem?_eq_getElem (by omega)] at e
      obtain ⟨cs', hc, ht⟩ := Option.bind_eq_some_iff.1 e
      obtain ⟨-, hcl, hat⟩ := World.cells?_some hc
      obtain ⟨t, hr⟩ := ih n' (by omega) cs' _ ht
      refine ⟨(t, cs'), hr, fun j u hu => ?_⟩
      have hu' : cs'[j]? = some u := hu
      obtain ⟨hj, hu2⟩ := List.getElem?_eq_some_iff.1 hu'
      have h0 := hat j (by omega)
      rw [Go.Deep.add_add] at h0
      rw [h0]
      first | exact hu' | (rw [← hu2])
    obtain ⟨ps, hps, hpp⟩ := list_of_all len key
    have hll : (ps.map (·.1)).length = len := by simp [hps]
    have := RepS.mk (S := fun b => b < W.heap.size) (w := W) k m e b.data.toList names (ps.map (·.1)) A ca (some a) cap (fun i => (ps[i]?.map (·.2)).getD []) hA0 (fun h => by cases h) hAc (by rw [hll]; exact hle) (int_in w0) (int_in w1) (int_in w2) hbl hA hx hln (by omega)
      (by
        rcases Nat.eq_zero_or_pos len with h0 | h0
        · exact .inl (List.eq_nil_of_length_eq_zero (by omega))
        · obtain ⟨p0, hp0⟩ : ∃ t, ps[0]? = some t := ⟨_, List.getElem?_eq_getElem (by omega)⟩
          obtain ⟨r0, g0⟩ := hpp 0 p0 hp0
          obtain ⟨u0, hu0⟩ : ∃ u, p0.2[0]? = some u := ⟨_, List.getElem?_eq_getElem (by rw [r0.six]; omega)⟩
          have c0 := g0 0 u0 hu0
          have hsp := World.cell?_spot c0
          obtain ⟨bb, off, sp⟩ := a
          have hbb := cell_block c0
          obtain rfl : sp = none := by simpa [Addr.add] using hsp
          refine .inr ⟨bb, off, rfl, by simpa [Addr.add] using hbb, fun i x hx j u hu => ?_⟩
          rw [List.getElem?_map] at hx
          obtain ⟨p, hp, -⟩ := Option.map_eq_some_iff.1 hx
          rw [hp] at hu
          have := (hpp i p hp).2 j u hu
          rwa [add_off, ← Nat.add_assoc] at this)
      (by
        intro i x hx
        rw [List.getElem?_map] at hx
        obtain ⟨p, hp, rfl⟩ := Option.map_eq_some_iff.1 hx
        rw [hp]
        exact (hpp i p hp).1)
    rw [hb, hll] at this
    exact ⟨_, this⟩
end
end Go.Proofs.YtoelifebmhlokaaGreatDoor
