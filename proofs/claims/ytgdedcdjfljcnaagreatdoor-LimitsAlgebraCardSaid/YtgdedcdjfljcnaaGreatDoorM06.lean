/- Contracts on the reference's spans: In, SameSpans, OwnSpans. -/
import Derived.Test.YtgdedcdjfljcnaaGreatDoorM05
import Derived.Laws.AppendOwnNone
namespace Go.Proofs.YtgdedcdjfljcnaaGreatDoor
open Go.RowKit

set_option maxRecDepth 20000 in
theorem rIn_any {B : Nat} (l : List Sp) (n : Int) (A : Option Addr) (ca : Nat) (w : World) (h : SpAt B w A l) (hB : B ≤ w.heap.size) (hm : l.length ≤ 100000) :
    Calls Tryz.prog 13 #[.slice A l.length ca, .int .i64 n] w fun e w' => e = .returned (.bool (inB l n)) ∧ ∃ k, w' = w.drewN k := by
  have H := Lib.hid h
  have Hw0 : Hid (∃ k, w = w.drewN k) := ⟨0, rfl⟩
  clear h
  go_enter Tryz.func13, Tryz.ntmps13
  go_wp2_with fail
  go_loopw [5] (fun i wr => ∃ m : Nat, m ≤ l.length ∧ i = .int .i64 m ∧ Hid (∀ i s, i < m → l[i]? = some s → ¬ (s.lo ≤ n ∧ n ≤ s.hi)) ∧ Hid (∃ k, wr = w.drewN k)) (fun i _ => l.length - (intOf i).toNat)
  case atStart => exact ⟨0, by omega, by go_num, fun i y h => absurd h (Nat.not_lt_zero _), Hw0⟩
  case round =>
    obtain ⟨m, hml, rfl, HR, HD⟩ := hrel
    have hfr : Fr w.heap.size w wr := by obtain ⟨k, rfl⟩ := HD.out; exact (Fr.self w).drewN k
    have Hst : ∀ j, Hid (∃ k, wr.drewN j = w.drewN k) := fun j => by obtain ⟨k, rfl⟩ := HD.out; exact ⟨k + j, World.drewN_drewN ..⟩
    by_cases hlt : m < l.length
    · obtain ⟨s, hs⟩ : ∃ s, l[m]? = some s := ⟨_, List.getElem?_eq_getElem hlt⟩
      obtain ⟨b, off, rfl, -, c0, c1⟩ := (H.out.keep (w' := wr) (hfr.2.mono hB)).item hs
      have hmn : (0 : Int) ≤ m := by omega
      have hmm : (m : Int) < l.length := by omega
      clear hfr
      by_cases hin : s.lo ≤ n ∧ n ≤ s.hi
      · have Hv := Lib.hid (in_yes l n m s hs hin)
        have Hw := Lib.hid (fun W => within_yes W hin)
        clear hs hin
        go_wp2_with fail
        go_quiet ((go_at_call 6; exact (Hw.out _).mono fun e w' h => ⟨h.1, _, h.2.symm⟩))
        go_wp2_with fail
        go_ret
        exact ⟨ret_bool Hv.out.symm, (Hst _).out⟩
      · have Hn := Lib.hid (in_step l n m s hs hin HR.out)
        have Hw := Lib.hid (fun W => within_no W hin)
        clear hs hin
        go_wp2_with fail
        go_quiet ((go_at_call 6; exact (Hw.out _).mono fun e w' h => ⟨h.1, _, h.2.symm⟩))
        go_wp2_with fail
        go_roundw
        case rel => exact ⟨m + 1, by omega, by go_num, Hn, Hst _⟩
        case measure => simp [intOf] <;> omega
    · have Hv := Lib.hid (in_no l n (fun i s hi hs => HR.out i s (by omega) hs))
      clear hfr
      go_wp2_with fail
      go_ret
      exact ⟨ret_bool Hv.out.symm, HD.out⟩

theorem sp_eq (s t : Sp) : (s = t) ↔ (s.lo = t.lo ∧ s.hi = t.hi) := by
  cases s; cases t; simp
theorem eq_spans (s t : Sp) (w : World) : (Op.equalIn 10000 55 (.agg #[.int .i64 s.lo, .int .i64 s.hi]) (.agg #[.int .i64 t.lo, .int .i64 t.hi])).run Tryz.prog w = .ok (decide (s = t)) w := by
  have u3 := Tryz.underlying3
  have a3 := Tryz.isAgg3
  have z3 := Tryz.sizeOf3
  have hS : Tryz.prog.underlying 55 = some (.struct (Tryz.prog.fieldsOf 55)) := by kernel_rfl
  rw [show (10000 : Nat) = 9999 + 1 from rfl, run_equalIn_agg w 9999 55 _ _ hS (by kernel_rfl)]
  simp only [Program.fieldsOf, Tryz.underlying55]
  go_simp
  by_cases h1 : s.lo = t.lo <;> by_cases h2 : s.hi = t.hi <;> simp [sp_eq, h1, h2]
theorem take_same {xs ys : List Sp} {k : Nat} {f : Sp} (hx : xs[k]? = some f) (hy : ys[k]? = some f) (h : xs.take k = ys.take k) : xs.take (k + 1) = ys.take (k + 1) := by
  rw [List.take_add_one, List.take_add_one, hx, hy, h]
set_option maxRecDepth 20000 in
theorem rSameSpans_any (xs ys : List Sp) (A A2 : Option Addr) (ca cb B : Nat) (w : World) (h : SpAt B w A xs) (h2 : SpAt B w A2 ys) (hB : B ≤ w.heap.size) (hm : xs.length ≤ maxLen) (hm2 : ys.length ≤ maxLen) :
    Calls Tryz.prog 17 #[.slice A xs.length ca, .slice A2 ys.length cb] w fun e w' => e = .returned (.bool (decide (xs = ys))) ∧ Fr w.heap.size w w' := by
  have hm' : xs.length ≤ 9223372036854775807 := hm
  have hm2' : ys.length ≤ 9223372036854775807 := hm2
  have H := Lib.hid h; have H2 := Lib.hid h2
  have hfw := Fr.self w
  clear h h2 hm hm2
  by_cases hl : xs.length = ys.length
  · have hlb : ((xs.length : Int) != ys.length) = false := by simp; omega
    have Hl := Lib.hid hl
    have hly : ys.length = xs.length := hl.symm
    clear hl
    go_enter Tryz.func17, Tryz.ntmps17
    go_wp2_with fail
    go_loopw [5] (fun i wr => ∃ k : Nat, k ≤ xs.length ∧ i = .int .i64 k ∧ Hid (xs.take k = ys.take k) ∧ Fr w.heap.size w wr) (fun i _ => xs.length - (intOf i).toNat)
    case atStart => exact ⟨0, by omega, by go_num, by unfold Hid; simp, hfw⟩
    case round =>
      obtain ⟨k, hk, rfl, HR, hfr⟩ := hrel
      by_cases hlt : k < xs.length
      · obtain ⟨f, hf⟩ : ∃ f, xs[k]? = some f := ⟨_, List.getElem?_eq_getElem hlt⟩
        obtain ⟨g, hg⟩ : ∃ g, ys[k]? = some g := ⟨_, List.getElem?_eq_getElem (by omega)⟩
        obtain ⟨b, off, rfl, -, c0, c1⟩ := (H.out.keep (w' := wr) (hfr.2.mono hB)).item hf
        obtain ⟨b2, off2, rfl, -, d0, d1⟩ := (H2.out.keep (w' := wr) (hfr.2.mono hB)).item hg
        have hkn : (0 : Int) ≤ k := by omega
        have hkm : (k : Int) < xs.length := by omega
        have hkm2 : (k : Int) < ys.length := by omega
        have heq := eq_spans f g
        by_cases hfg : f = g
        · have Hs := Lib.hid (take_same hf (hfg ▸ hg) HR.out)
          rw [decide_eq_true hfg] at heq
          clear hf hg
          go_wp2_with fail
          go_quiet (fail)
          go_wp2_with fail
          go_roundw
          case rel => exact ⟨k + 1, by omega, by go_num, Hs, hfr.drewN _⟩
          case measure => simp [intOf] <;> omega
        · have Hs : Hid (decide (xs = ys) = false) := decide_eq_false (fun e => hfg (by rw [e, hg] at hf; injection hf with hf; exact hf.symm))
          rw [decide_eq_false hfg] at heq
          clear hf hg
          go_wp2_with fail
          go_quiet (fail)
          go_wp2_with fail
          go_ret
          exact ⟨ret_bool (by rw [Hs.out]), hfr.drewN _⟩
      · have Hs : Hid (decide (xs = ys) = true) := by
          have := HR.out
          have hl := Hl.out
          rw [List.take_of_length_le (by omega), List.take_of_length_le (by omega)] at this
          exact decide_eq_true this
        go_wp2_with fail
        go_ret
        exact ⟨ret_bool (by rw [Hs.out]), hfr⟩
  · have hlb : ((xs.length : Int) != ys.length) = true := by simp; omega
    have Hs : Hid (decide (xs = ys) = false) := decide_eq_false (fun e => hl (by rw [e]))
    clear hl
    go_enter Tryz.func17, Tryz.ntmps17
    go_wp2_with fail
    go_ret
    exact ⟨ret_bool (by rw [Hs.out]), hfw⟩
theorem own_cases {w : World} {base : Nat} {e : TypeId} {size n : Nat} {v : Value} {xs : List Value} (h : w.ownsRow base e size v n xs) :
    (v = .slice none 0 0 ∧ n = 0 ∧ xs = []) ∨ ∃ g cap, v = .slice (some ⟨g, 0, none⟩) n cap ∧ base ≤ g ∧ g < w.heap.size ∧ n ≤ cap ∧ ∀ (j : Nat) (u : Value), xs[j]? = some u → w.cell? ⟨g, j, none⟩ = some u := by
  obtain ⟨hl, h⟩ := h
  rcases h with ⟨hv, hn⟩ | ⟨g, cap, cur, hv, hb, hh, hnc, hcm, hcur, htk⟩
  · refine .inl ⟨hv, hn, ?_⟩
    subst hn
    exact List.eq_nil_of_length_eq_zero (by omega)
  · refine .inr ⟨g, cap, hv, hb, ?_, hnc, fun j u hu => ?_⟩
    · rcases Nat.lt_or_ge g w.heap.size with h | h
      · exact h
      · rw [Array.getElem?_eq_none h] at hh; cases hh
    · rw [cell_of_row w g j cur e (0, 0) hh]
      rw [← htk] at hu
      rw [List.getElem?_take] at hu
      split at hu
      · simpa using hu
      · cases hu
theorem span_info : (Tryz.prog.info? 55).map (fun i => (i.zero, i.size, i.bytes)) = some (some (.agg #[.int .i64 0, .int .i64 0]), 2, 16) := by kernel_rfl
set_option maxRecDepth 20000 in
theorem rOwnSpans_any (fs : List Sp) (A : Option Addr) (ca B : Nat) (w : World) (h0 : A = none → ca = 0) (h : SpAt B w A fs) (hlen : fs.length ≤ 2000) :
    Calls Tryz.prog 16 #[.slice A fs.length ca] w fun e w' => (∃ A' ca', e = .returned (.slice A' fs.length ca') ∧ (A' = none → ca' = 0) ∧ SpAt w'.heap.size w' A' fs) ∧ Fr w.heap.size w w' := by
  have hf := (Fr.self w).alloc (.cells #[] 55)
  have hown : (w.alloc (.cells #[] 55)).ownsRow w.heap.size 55 2 (.slice (some ⟨w.heap.size, 0, none⟩) 0 0) 0 [] :=
    ⟨rfl, .inr ⟨w.heap.size, 0, #[], rfl, Nat.le_refl _, heap_alloc_new _ _, Nat.le_refl _, by decide, rfl, rfl⟩⟩
  obtain ⟨i0, hi0, hz0, hz1, hz2⟩ := info_parts span_info
  have Hown := Lib.hid hown; clear hown
  cases A with
  | none =>
    have hw : fs = [] := h.resolve_right (by rintro ⟨b, off, h, -⟩; cases h)
    subst hw
    obtain rfl := h0 rfl
    clear h h0
    go_enter Tryz.func16, Tryz.ntmps16
    go_wp2_with (at_builtin; refine wpList_append_own_none rfl _ _ 34 rfl w.heap.size 55 i0 2 Tryz.underlying34 hi0 _ _ _ rfl Hown.out rfl ?_)
    go_ret
    exact ⟨⟨_, _, rfl, fun h => (by cases h), .inl rfl⟩, hf⟩
  | some ad =>
    have hc : ∀ j u, (spCells fs)[j]? = some u → (w.alloc (.cells #[] 55)).cell? (ad.add j) = some u := by
      intro j u hu
      rcases h with rfl | ⟨b, off, hA, -, hcl⟩
      · simp [spCells] at hu
      · injection hA with hA
        subst hA
        have h1 := hcl j u hu
        have hb : b < w.heap.size := by
          rcases Nat.lt_or_ge b w.heap.size with h' | h'
          · exact h'
          · simp [World.cell?, Array.getElem?_eq_none h'] at h1
        have e : (({ block := b, off := off, spot := none } : Addr).add j) = ⟨b, off + j, none⟩ := by
          unfold Addr.add
          by_cases hj : j = 0 <;> simp [hj]
        rw [e]
        exact (hf.cell (p := ⟨b, off + j, none⟩) hb).trans h1
    have Hc := Lib.hid hc; have Hcl := Lib.hid (spCells_length fs); have H1 := Lib.hid (spCells_one fs); clear hc h h0
    go_enter Tryz.func16, Tryz.ntmps16
    go_wp2_with (at_builtin; refine wpList_append_own _ rfl _ _ 34 rfl w.heap.size 55 i0 _ 2 16 Tryz.underlying34 hi0 hz0 hz1 hz2 rfl (by decide) _ _ _ rfl Hown.out ad fs.length ca (spCells fs) rfl Hcl.out Hc.out H1.out ?d3 ?d4 ?d5 ?_)
    case d3 => unfold maxLen; omega
    case d4 => omega
    case d5 => simp
    intro v' w3 hown3 hg3 hnil
    have hfr3 : Fr w.heap.size w w3 := hf.grown hg3 (fun g hg => by simp [Value.ownBlock] at hg; omega)
    have Hown3 := Lib.hid hown3
    clear hg3 hown3
    go_wp2_with fail
    go_ret
    refine ⟨?_, hfr3⟩
    rcases own_cases Hown3.out with ⟨rfl, hn, -⟩ | ⟨g, cap, rfl, hg1, hg2, hgc, hcells⟩
    · exact (hnil rfl).elim
    · refine ⟨_, _, rfl, fun h => (by cases h), .inr ⟨g, 0, rfl, hg2, fun j u hu => ?_⟩⟩
      rw [Nat.zero_add]
      exact hcells j u hu

end Go.Proofs.YtgdedcdjfljcnaaGreatDoor
