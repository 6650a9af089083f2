/- Contracts on copies: OwnTexts, OwnValues, OwnValue: the same trees, in memory of their own. -/
import Derived.Test.YtgdedcdjfljcnaaGreatDoorM28
import Derived.Maps.AppendAt
import Derived.Laws.AppendOwnNone
import Derived.Deep.RegionHeld3
import Derived.Deep.RegionLaw
namespace Go.Proofs.YtgdedcdjfljcnaaGreatDoor
open Go.RowKit

def strC (ws : List (List UInt8)) : List Value := ws.map fun x => .string ⟨x.toArray⟩
theorem info_of {t : TypeId} {z : Value} {size bytes : Nat} (h : (Tryz.prog.info? t).map (fun i => (i.zero, i.size, i.bytes)) = some (some z, size, bytes)) : ∃ i, Tryz.prog.info? t = some i ∧ i.zero = some z ∧ i.size = size ∧ i.bytes = bytes := by
  obtain ⟨i, hi, h⟩ := Option.map_eq_some_iff.1 h
  simp only [Prod.mk.injEq] at h
  exact ⟨i, hi, h.1, h.2.1, h.2.2⟩
theorem str_info : (Tryz.prog.info? 9).map (fun i => (i.zero, i.size, i.bytes)) = some (some (.string ⟨#[]⟩), 1, 16) := by kernel_rfl
theorem row_cases {w : World} {base : Nat} {e : TypeId} {size n : Nat} {v : Value} {xs : List Value} (h : w.ownsRow base e size v n xs) :
    (v = .slice none 0 0 ∧ n = 0 ∧ xs = []) ∨ ∃ g cap, v = .slice (some ⟨g, 0, none⟩) n cap ∧ base ≤ g ∧ g < w.heap.size ∧ n ≤ cap ∧ ∀ (j : Nat) (u : Value), xs[j]? = some u → w.cell? ⟨g, j, none⟩ = some u := by
  rcases h.2 with ⟨rfl, hn⟩ | ⟨g, cap, cur, rfl, hb, hh, hnc, -, -, htk⟩
  · refine .inl ⟨rfl, ?_, ?_⟩
    · exact hn
    · have := h.1; rw [hn] at this; exact List.eq_nil_of_length_eq_zero (by simpa using this)
  · refine .inr ⟨g, cap, rfl, hb, (Array.getElem?_eq_some_iff.1 hh).1, hnc, fun j u hu => ?_⟩
    rw [cell_of_row w g j cur e (0, 0) hh]
    have hj : j < n * size := by
      have := (List.getElem?_eq_some_iff.1 hu).1
      have h1 := h.1
      omega
    rw [← htk, List.getElem?_take_of_lt hj] at hu
    simpa using hu

set_option maxRecDepth 100000 in
theorem ownTexts_any {S : Nat → Prop} (ws : List (List UInt8)) (A : Option Addr) (ca : Nat) (w : World) (h0 : A = none → ca = 0) (h : NamesS S w A ws) (hlen : ws.length ≤ 1000) :
    Calls Tryz.prog 78 #[.slice A ws.length ca] w fun e w' => (∃ A' ca', e = .returned (.slice A' ws.length ca') ∧ (A' = none → ca' = 0) ∧ ws.length ≤ ca' ∧ NamesS (fun b => w.heap.size ≤ b ∧ b < w'.heap.size) w' A' ws) ∧ Fr w.heap.size w w' := by
  have hf := (Fr.self w).alloc (.cells #[] 9)
  have hown : (w.alloc (.cells #[] 9)).ownsRow w.heap.size 9 1 (.slice (some ⟨w.heap.size, 0, none⟩) 0 0) 0 [] :=
    ⟨rfl, .inr ⟨w.heap.size, 0, #[], rfl, Nat.le_refl _, heap_alloc_new _ _, Nat.le_refl _, by decide, rfl, rfl⟩⟩
  obtain ⟨i0, hi0, hz0, hz1, hz2⟩ := info_of str_info
  have Hown := Lib.hid hown; clear hown
  cases A with
  | none =>
    have hw : ws = [] := h.resolve_right (by rintro ⟨b, off, h, -⟩; cases h)
    subst hw
    obtain rfl := h0 rfl
    clear h h0
    go_enter Tryz.func78, Tryz.ntmps78
    go_wp2_with (at_builtin; refine wpList_append_own_none rfl _ _ 41 rfl w.heap.size 9 i0 1 Tryz.underlying41 hi0 _ _ _ rfl Hown.out rfl ?_)
    go_ret
    exact ⟨⟨_, _, rfl, fun h => (by cases h), Nat.zero_le _, .inl rfl⟩, hf⟩
  | some ad =>
    have hc : ∀ j u, (strC ws)[j]? = some u → (w.alloc (.cells #[] 9)).cell? (ad.add j) = some u := by
      intro j u hu
      unfold strC at hu
      rw [List.getElem?_map] at hu
      obtain ⟨x, hx, rfl⟩ := Option.map_eq_some_iff.1 hu
      have hne : ws ≠ [] := by rintro rfl; simp at hx
      obtain ⟨b, off, hA, -, hcl⟩ := h.resolve_left hne
      injection hA with hA
      subst hA
      rw [add_off]
      have h1 := hcl j x hx
      exact (hf.cell (p := ⟨b, off + j, none⟩) (cell_block h1)).trans h1
    have hcl : (strC ws).length = ws.length * 1 := by simp [strC]
    have h1 : ∀ u ∈ strC ws, u.oneCell' = true := by
      intro u hu
      unfold strC at hu
      rw [List.mem_map] at hu
      obtain ⟨t, -, rfl⟩ := hu
      rfl
    have Hc := Lib.hid hc; have Hcl := Lib.hid hcl; have H1 := Lib.hid h1; clear hcl h1 hc h h0
    go_enter Tryz.func78, Tryz.ntmps78
    go_wp2_with (at_builtin; refine wpList_append_own _ rfl _ _ 41 rfl w.heap.size 9 i0 _ 1 16 Tryz.underlying41 hi0 hz0 hz1 hz2 rfl (by decide) _ _ _ rfl Hown.out ad ws.length ca (strC ws) rfl Hcl.out Hc.out H1.out ?d3 ?d4 ?d5 ?_)
    case d3 => unfold maxLen; omega
    case d4 => omega
    case d5 => simp
    intro v' w3 hown3 hg3 hnil
    have hfr3 : Fr w.heap.size w w3 := hf.grown hg3 (fun g hg => by simp [Value.ownBlock] at hg; omega)
    have Hown3 := Lib.hid hown3
    clear hg3 hown3
    go_wp2_with fail
    go_ret
    refine ⟨?_, hfr3⟩
    have ho := Hown3.out
    rcases row_cases ho with ⟨rfl, hn, -⟩ | ⟨g, cap, rfl, hg1, hg2, hgc, hcells⟩
    · exact (hnil rfl).elim
    · refine ⟨_, _, rfl, fun h => (by cases h), hgc, .inr ⟨g, 0, rfl, ⟨hg1, hg2⟩, fun j x hx => ?_⟩⟩
      rw [Nat.zero_add]
      exact hcells j _ (by unfold strC; rw [List.getElem?_map, hx]; rfl)

/-- Fresh: made since a world. -/
def Fresh (w w' : World) (b : Nat) : Prop := w.heap.size ≤ b ∧ b < w'.heap.size
/-- A tree is copied. -/
def OwnC (x : VT) : Prop := ∀ (B : Nat) (w : World) (cs : List Value), Rep B w x cs → B ≤ w.heap.size →
  Calls Tryz.prog 48 #[.agg cs.toArray] w fun e w' => (∃ cs', e = .returned (.agg cs'.toArray) ∧ RepS (Fresh w w') w' x cs') ∧ Fr w.heap.size w w'
theorem val_info : (Tryz.prog.info? 44).map (fun i => (i.zero, i.size, i.bytes)) = some (some (.agg #[.int .i64 0, .int .i64 0, .int .i64 0, .string ⟨#[]⟩, .slice none 0 0, .slice none 0 0]), 6, 88) := by kernel_rfl
theorem flat_at {css : List (List Value)} (h6 : ∀ c ∈ css, c.length = 6) {i : Nat} {c : List Value} (hi : css[i]? = some c) {j : Nat} {u : Value} (hj : c[j]? = some u) : css.flatten[i * 6 + j]? = some u := by
  induction css generalizing i with
  | nil => simp at hi
  | cons d css ih =>
    have hd := h6 d (by simp)
    cases i with
    | zero =>
      simp at hi
      subst hi
      have := (List.getElem?_eq_some_iff.1 hj).1
      rw [List.flatten_cons, Nat.zero_mul, Nat.zero_add, List.getElem?_append_left this]; exact hj
    | succ i =>
      rw [List.flatten_cons, List.getElem?_append_right (by omega)]
      have := ih (fun c hc => h6 c (by simp [hc])) (by simpa using hi)
      rw [← this]; congr 1; omega
/-- Copies so far, in a row of the call's own. -/
def RowOf (w0 w : World) (v : Value) (xs : List VT) : Prop :=
  ∃ css : List (List Value), css.length = xs.length ∧ w.ownsRow w0.heap.size 44 6 v xs.length css.flatten ∧ ∀ (i : Nat) (y : VT) (c : List Value), xs[i]? = some y → css[i]? = some c → RepS (fun b => Fresh w0 w b ∧ some b ≠ v.ownBlock) w y c
theorem RowOf.vals {w0 w : World} {v : Value} {xs : List VT} (h : RowOf w0 w v xs) (hl : xs.length ≤ maxLen) : ValsS (Fresh w0 w) w v xs := by
  obtain ⟨css, hc, hown, hr⟩ := h
  have h6 : ∀ c ∈ css, c.length = 6 := by
    intro c hcm
    obtain ⟨i, hi⟩ := List.mem_iff_getElem?.1 hcm
    have hil := (List.getElem?_eq_some_iff.1 hi).1
    obtain ⟨y, hy⟩ : ∃ y, xs[i]? = some y := ⟨_, List.getElem?_eq_getElem (by omega)⟩
    exact (hr i y c hy hi).six
  have hrr : ∀ (i : Nat) (x : VT), xs[i]? = some x → RepS (Fresh w0 w) w x ((css[i]?).getD []) := by
    intro i x hx
    have hil := (List.getElem?_eq_some_iff.1 hx).1
    obtain ⟨c, hc'⟩ : ∃ c, css[i]? = some c := ⟨_, List.getElem?_eq_getElem (by omega)⟩
    rw [hc']
    exact (hr i x c hx hc').keep (fun _ _ => rfl) (fun _ h => h.1)
  rcases row_cases hown with ⟨rfl, hn, -⟩ | ⟨g, cap, rfl, hg1, hg2, hgc, hcells⟩
  · have : xs = [] := List.eq_nil_of_length_eq_zero hn
    subst this
    exact ⟨none, 0, rfl, fun _ => rfl, Nat.le_refl _, hl, fun i => (css[i]?).getD [], .inl rfl, hrr⟩
  · refine ⟨some ⟨g, 0, none⟩, cap, rfl, fun h => (by cases h), hgc, hl, fun i => (css[i]?).getD [], .inr ⟨g, 0, rfl, ⟨hg1, hg2⟩, fun i x hx j u hu => ?_⟩, hrr⟩
    have hil := (List.getElem?_eq_some_iff.1 hx).1
    obtain ⟨c, hc'⟩ : ∃ c, css[i]? = some c := ⟨_, List.getElem?_eq_getElem (by omega)⟩
    have hu' : c[j]? = some u := by simpa [hc'] using hu
    rw [Nat.zero_add]
    exact hcells _ _ (flat_at h6 hc' hu')

set_option maxRecDepth 100000 in
theorem ownValues_any (xs : List VT) (hC : ∀ y ∈ xs, OwnC y) (hn : xs.length ≤ 1000) (B : Nat) (w : World) (v : Value) (h : ValsAt B w v xs) (hB : B ≤ w.heap.size) :
    Calls Tryz.prog 27 #[v] w fun e w' => (∃ v', e = .returned v' ∧ ValsS (Fresh w w') w' v' xs) ∧ Fr w.heap.size w w' := by
  obtain ⟨D, cb, rfl, -, -, hlen, -⟩ := id h
  have Hva := Lib.hid h; have HC := Lib.hid hC
  obtain ⟨i0, hi0, hz0, hz1, hz2⟩ := info_of val_info
  clear h hC
  go_enter Tryz.func27, Tryz.ntmps27
  go_wp2_with fail
  go_loopw [3, 4] (fun u i wr => ∃ m : Nat, m ≤ xs.length ∧ i = .int .i64 m ∧ Hid (RowOf w wr u (xs.take m)) ∧ Fr w.heap.size w wr) (fun _ i _ => xs.length - (intOf i).toNat)
  case atStart => exact ⟨0, by omega, by go_num, ⟨[], rfl, ⟨rfl, .inl ⟨rfl, rfl⟩⟩, fun i y c h => by simp at h⟩, Fr.self w⟩
  case round =>
    obtain ⟨m, hm, rfl, hrow, hfm⟩ := hrel
    by_cases hml : m < xs.length
    · obtain ⟨y, hy⟩ : ∃ y, xs[m]? = some y := ⟨_, List.getElem?_eq_getElem hml⟩
      obtain ⟨b, off, v0, v1, v2, v3, v4, v5, rfl, hry, k0, k1, k2, k3, k4, k5⟩ := Hva.out.item (hfm.2.mono hB) hy
      have hih := HC.out y (List.mem_of_getElem? hy) B wr _ hry (Nat.le_trans hB hfm.le)
      have Hih := Lib.hid hih
      have htk : xs.take (m + 1) = xs.take m ++ [y] := by rw [List.take_add_one, hy]; rfl
      have Htk := Lib.hid htk
      have hmn : (0 : Int) ≤ m := by omega
      have hmm : (m : Int) < xs.length := by omega
      have hml2 : (xs.take m).length = m := by rw [List.length_take]; omega
      clear hih hy hry htk
      obtain ⟨css, hcl, hown, hrr⟩ := hrow.out
      rw [hml2] at hcl hown
      have hlt2 := fun g => own_lt hown (g := g)
      go_wp2_with fail
      refine (Hih.out).mono ?_
      rintro e w2 ⟨⟨cs', rfl, hr2⟩, hf2⟩
      obtain ⟨q0, q1, q2, q3, q4, q5, rfl⟩ := six_of hr2.six
      have h1 : ∀ u ∈ [q0, q1, q2, q3, q4, q5], u.oneCell' = true := by
        intro u hu
        generalize hcs : [q0, q1, q2, q3, q4, q5] = cs' at hr2 hu
        cases hr2
        simp at hu
        rcases hu with rfl | rfl | rfl | rfl | rfl | rfl <;> rfl
      have hown2 := (own_below hown hf2.2).alloc (.cells #[q0, q1, q2, q3, q4, q5] 44)
      have hnews := cells_new w2 #[q0, q1, q2, q3, q4, q5] 44
      have hfw2 : Fr w.heap.size w w2 := hfm.trans hf2
      have H1 := Lib.hid h1; have Hnews := Lib.hid hnews; have Hr2 := Lib.hid hr2; have Hrr := Lib.hid hrr
      clear h1 hnews hr2 hrr hown
      go_wp2_with (at_builtin; refine wpList_append_own_at _ rfl _ _ 42 rfl w.heap.size 44 i0 _ 6 88 Tryz.underlying42 hi0 hz0 hz1 hz2 rfl (by decide) _ _ _ rfl hown2 ⟨w2.heap.size, 0, none⟩ 1 1 [q0, q1, q2, q3, q4, q5] rfl rfl ?d1 ?d2 ?d3 ?d4 ?d5 ?_)
      case d1 => exact Hnews.out
      case d2 => exact H1.out
      case d3 => unfold maxLen; omega
      case d4 => omega
      case d5 => have := hfw2.le; simp; omega
      intro v' w3 hown3 hg3 _ hat
      have hfr3 : Fr w.heap.size w w3 := (hfw2.alloc _).grown hg3 (fun g hg => (hlt2 g hg).1)
      have hsz2 : wr.heap.size ≤ w2.heap.size := hf2.2.size
      have hsz3 : w2.heap.size + 1 ≤ w3.heap.size := by have := hg3.size; simpa using this
      have hrow3 : RowOf w w3 v' (xs.take (m + 1)) := by
        rw [Htk.out]
        refine ⟨css ++ [[q0, q1, q2, q3, q4, q5]], by simp [hcl, hml2], ?_, ?_⟩
        · rw [List.flatten_append, List.length_append, hml2]
          simpa using hown3
        · intro i y' c hy' hc
          have hal : (w2.alloc (.cells #[q0, q1, q2, q3, q4, q5] 44)).heap.size = w2.heap.size + 1 := by simp
          have hblk : ∀ b, b < w2.heap.size → some b ≠ u3.ownBlock → w3.heap[b]? = w2.heap[b]? := fun b hb hne => (hg3.block b (by rw [hal]; omega) hne).trans (Below.heap_alloc _ _ _ hb)
          by_cases him : i < m
          · rw [List.getElem?_append_left (by omega)] at hy'
            rw [List.getElem?_append_left (by omega)] at hc
            refine (Hrr.out i y' c hy' hc).keep (fun b hb => (hblk b (by have := hb.1.2; omega) hb.2).trans (hf2.2.block b hb.1.2)) (fun b hb => ⟨⟨hb.1.1, by have := hb.1.2; omega⟩, ?_⟩)
            intro e
            rcases hat with hat | hat
            · rw [hat] at e; exact hb.2 e
            · rw [hat] at e; injection e with e; have := hb.1.2; omega
          · have hil := (List.getElem?_eq_some_iff.1 hy').1
            rw [List.length_append, hml2] at hil
            simp at hil
            obtain rfl : i = m := by omega
            rw [List.getElem?_append_right (by omega), hml2] at hy'
            rw [List.getElem?_append_right (by omega), hcl] at hc
            simp at hy' hc
            subst hy'; subst hc
            have hne : ∀ b, wr.heap.size ≤ b → some b ≠ u3.ownBlock := fun b hb e => by have := (hlt2 b e.symm).2; omega
            refine Hr2.out.keep (fun b hb => hblk b hb.2 (hne b hb.1)) (fun b hb => ⟨⟨Nat.le_trans hfm.le hb.1, by have := hb.2; omega⟩, ?_⟩)
            intro e
            rcases hat with hat | hat
            · rw [hat] at e; exact hne b hb.1 e
            · rw [hat] at e; injection e with e; have := hb.2; omega
      have Hrow3 := Lib.hid hrow3
      clear hg3 hown3 hown2 hlt2 hrow3
      go_wp2_with fail
      go_roundw
      case rel => exact ⟨m + 1, by omega, by go_num, Hrow3, hfr3⟩
      case measure => simp [intOf] <;> omega
    · have hrow' : RowOf w wr u3 xs := by have := hrow.out; rwa [List.take_of_length_le (by omega)] at this
      have Hrow := Lib.hid (hrow'.vals hlen); clear hrow hrow'
      go_wp2_with fail
      go_ret
      exact ⟨⟨_, rfl, Hrow.out⟩, hfm⟩
end Go.Proofs.YtgdedcdjfljcnaaGreatDoor
