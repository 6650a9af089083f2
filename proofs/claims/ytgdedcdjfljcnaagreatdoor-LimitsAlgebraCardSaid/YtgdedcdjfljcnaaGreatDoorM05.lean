/- Contracts on spans that are checked: CheckSpans, SpansErr. -/
import Derived.Test.YtgdedcdjfljcnaaGreatDoorM02
import Derived.Deep.RegionHeld3
import Derived.IntWalk
namespace Go.Proofs.YtgdedcdjfljcnaaGreatDoor
open Go.RowKit

/-- A span of numbers, not empty. -/
def okB (s : Sp) : Bool := decide (s.lo ≤ s.hi ∧ -1152921504606846976 ≤ s.lo ∧ s.hi ≤ 1152921504606846976)
/-- The span before an index ends too late. -/
def nearB (l : List Sp) (k : Nat) (s : Sp) : Bool := match k with
  | 0 => false
  | j + 1 => match l[j]? with
    | none => false
    | some p => decide (s.lo ≤ p.hi + 1)
def spFrom (l : List Sp) (k : Nat) : Int × Int :=
  match h : l[k]? with
  | none => ((l.length : Int), 0)
  | some s => if okB s = true then if nearB l k s = true then ((k : Int), 14) else spFrom l (k + 1) else ((k : Int), 3)
termination_by l.length - k
decreasing_by
  have := (List.getElem?_eq_some_iff.1 h).1
  omega
def spErr (l : List Sp) : Int × Int := if 40 < l.length then (0, 2) else spFrom l 0
theorem spFrom_end {l : List Sp} {k : Nat} (h : l.length ≤ k) : spFrom l k = ((l.length : Int), 0) := by
  unfold spFrom
  split
  · rfl
  · rename_i s hs
    have := (List.getElem?_eq_some_iff.1 hs).1
    omega
theorem spFrom_at {l : List Sp} {k : Nat} {s : Sp} (h : l[k]? = some s) : spFrom l k = if okB s = true then if nearB l k s = true then ((k : Int), 14) else spFrom l (k + 1) else ((k : Int), 3) := by
  rw [spFrom]
  split
  · rename_i hs; rw [h] at hs; cases hs
  · rename_i s' hs; rw [h] at hs; injection hs with hs; subst hs; rfl
theorem iw_any (a b c d : Int) (r : Bool) (h : decide (a ≤ b ∧ c ≤ a ∧ b ≤ d) = r) (w : World) :
    Calls Tryz.prog 57 #[.agg #[.int .i64 a, .int .i64 b], .agg #[.int .i64 c, .int .i64 d]] w fun e w' => e = .returned (.bool r) ∧ Fr w.heap.size w w' := h ▸ isWithin_any ⟨a, b⟩ ⟨c, d⟩ w
theorem within_eq {n a b : Int} {r : Bool} (h : decide (a ≤ n ∧ n ≤ b) = r) (w : World) :
    Calls Tryz.prog 6 #[.int .i64 n, .int .i64 a, .int .i64 b] w fun e w' => e = .returned (.bool r) ∧ w = w' := h ▸ within_any n a b w
theorem within_yes {n a b : Int} (w : World) (h : a ≤ n ∧ n ≤ b) : Calls Tryz.prog 6 #[.int .i64 n, .int .i64 a, .int .i64 b] w fun e w' => e = .returned (.bool true) ∧ w = w' := within_eq (decide_eq_true h) w
theorem within_no {n a b : Int} (w : World) (h : ¬ (a ≤ n ∧ n ≤ b)) : Calls Tryz.prog 6 #[.int .i64 n, .int .i64 a, .int .i64 b] w fun e w' => e = .returned (.bool false) ∧ w = w' := within_eq (decide_eq_false h) w
/-- All before an index are right. -/
def okTo (l : List Sp) (m : Nat) : Prop := ∀ i s, i < m → l[i]? = some s → okB s = true
theorem okTo_step {l : List Sp} {m : Nat} {s : Sp} (h : okTo l m) (hs : l[m]? = some s) (hm : okB s = true) : okTo l (m + 1) := by
  intro i y hi hy
  rcases Nat.lt_or_ge i m with h1 | h1
  · exact h i y h1 hy
  · obtain rfl : i = m := by omega
    rw [hs] at hy; injection hy with hy; subst hy; exact hm
theorem okB_in {s : Sp} (h : okB s = true) : s.lo ≤ s.hi ∧ -1152921504606846976 ≤ s.lo ∧ s.hi ≤ 1152921504606846976 := of_decide_eq_true h
/-- A loop's round finds what is before an index. -/
theorem nearB_succ {l : List Sp} {j : Nat} {p s : Sp} (h : l[j]? = some p) : nearB l (j + 1) s = decide (s.lo ≤ p.hi + 1) := by
  unfold nearB; simp only [h]

set_option maxRecDepth 20000 in
set_option maxHeartbeats 1000000 in
theorem CheckSpans_any {B : Nat} (l : List Sp) (A : Option Addr) (ca : Nat) (w : World) (h : SpAt B w A l) (hB : B ≤ w.heap.size) (hm : l.length ≤ 100000) :
    Calls Tryz.prog 33 #[.slice A l.length ca] w fun e w' => e = .returned (.tuple #[.int .i64 (spErr l).1, .int .i64 (spErr l).2]) ∧ Fr w.heap.size w w' := by
  have H := Lib.hid h
  have hf := Fr.self w
  have Hwn := Lib.hid wholeNumbers_any
  clear h
  by_cases hbig : 40 < l.length
  · have hv : spErr l = (0, 2) := by unfold spErr; rw [if_pos hbig]
    have Hv := Lib.hid hv
    have hbI : (40 : Int) < l.length := by omega
    clear hv
    go_enter Tryz.func33, Tryz.ntmps33
    go_wp2_with fail
    go_ret2
    exact ⟨by rw [Hv.out]; rfl, hf⟩
  have hv : spErr l = spFrom l 0 := by unfold spErr; rw [if_neg hbig]
  have hbI : ¬ ((40 : Int) < l.length) := by omega
  generalize spErr l = r at *
  have Hv := Lib.hid hv
  clear hv
  go_enter Tryz.func33, Tryz.ntmps33
  go_wp2_with fail
  go_loopw [11] (fun i wr => ∃ m : Nat, m ≤ l.length ∧ i = .int .i64 m ∧ Hid (r = spFrom l m) ∧ Hid (okTo l m) ∧ Fr w.heap.size w wr) (fun i _ => l.length - (intOf i).toNat)
  case atStart => exact ⟨0, by omega, by go_num, Hv, fun i y h => absurd h (Nat.not_lt_zero _), hf⟩
  case round =>
    obtain ⟨m, hml, rfl, HR, HT, hfr⟩ := hrel
    by_cases hlt : m < l.length
    · obtain ⟨s, hs⟩ : ∃ s, l[m]? = some s := ⟨_, List.getElem?_eq_getElem hlt⟩
      have hst := HR.out
      rw [spFrom_at hs] at hst
      have hsa := (H.out.keep (w' := wr) (hfr.2.mono hB))
      obtain ⟨b, off, rfl, hbB, c0, c1⟩ := hsa.item hs
      have hmn : (0 : Int) ≤ m := by omega
      have hmm : (m : Int) < l.length := by omega
      have hbw : b < wr.heap.size := Nat.lt_of_lt_of_le hbB (Nat.le_trans hB hfr.2.size)
      have Hw := Lib.hid (fun W => iw_any s.lo s.hi (-1152921504606846976) 1152921504606846976 (okB s) rfl W)
      have n0 : (wr.alloc (.cells #[.int .i64 s.lo, .int .i64 s.hi] 55)).cell? ⟨wr.heap.size, 0, none⟩ = some (.int .i64 s.lo) := cell_new wr _ _ 0
      have n1 : (wr.alloc (.cells #[.int .i64 s.lo, .int .i64 s.hi] 55)).cell? ⟨wr.heap.size, 1, none⟩ = some (.int .i64 s.hi) := cell_new wr _ _ 1
      have hfa := (Fr.self wr).alloc (.cells #[.int .i64 s.lo, .int .i64 s.hi] 55)
      cases hok : okB s with
      | false =>
        rw [hok, if_neg (by simp)] at hst
        have Hst := Lib.hid hst
        rw [hok] at Hw
        clear hst hs hok hsa
        go_wp2_with fail
        generalize hW1 : wr.alloc (.cells #[.int .i64 s.lo, .int .i64 s.hi] 55) = W1 at *
        have hW1s : wr.heap.size < W1.heap.size := by rw [← hW1]; simp
        have HW1 := Lib.hid hW1
        clear hW1
        go_region_held3 (fun w' => wr.heap.size < w'.heap.size ∧ w'.cell? ⟨wr.heap.size, 0, none⟩ = some (.int .i64 s.lo) ∧ w'.cell? ⟨wr.heap.size, 1, none⟩ = some (.int .i64 s.hi))
          (first
            | go_keep
            | (go_split_ands; exact ⟨Nat.lt_of_lt_of_le (by assumption) hf6.2.size, (hf6.cell (p := ⟨wr.heap.size, 0, none⟩) (by assumption)).trans (by assumption), (hf6.cell (p := ⟨wr.heap.size, 1, none⟩) (by assumption)).trans (by assumption)⟩)
            | (go_split_ands; exact ⟨Nat.lt_of_lt_of_le (by assumption) hf7.2.size, (hf7.cell (p := ⟨wr.heap.size, 0, none⟩) (by assumption)).trans (by assumption), (hf7.cell (p := ⟨wr.heap.size, 1, none⟩) (by assumption)).trans (by assumption)⟩))
          (first
            | (go_at_call 47; refine (Hwn.out _).mono ?_; rintro e w6 ⟨rfl, hf6⟩)
            | (go_at_call 57; refine (Hw.out _).mono ?_; rintro e w7 ⟨rfl, hf7⟩))
        go_wp2_with fail
        go_ret2
        exact ⟨by rw [Hst.out]; rfl, hfr.trans ((hfa.drew.trans hf6).trans hf7)⟩
      | true =>
        have hin := okB_in hok
        have HT2 := Lib.hid (okTo_step HT.out hs hok)
        rw [hok, if_pos rfl] at hst
        rw [hok] at Hw
        by_cases hm0 : (m : Int) ≤ 0
        · have Hst := Lib.hid (hst.trans (if_neg (by obtain rfl : m = 0 := by omega
                                                     simp [nearB])))
          clear hst hs hok hsa hin
          go_wp2_with fail
          generalize hW1 : wr.alloc (.cells #[.int .i64 s.lo, .int .i64 s.hi] 55) = W1 at *
          have hW1s : wr.heap.size < W1.heap.size := by rw [← hW1]; simp
          have HW1 := Lib.hid hW1
          clear hW1
          go_region_held3 (fun w' => wr.heap.size < w'.heap.size ∧ w'.cell? ⟨wr.heap.size, 0, none⟩ = some (.int .i64 s.lo) ∧ w'.cell? ⟨wr.heap.size, 1, none⟩ = some (.int .i64 s.hi))
            (first
              | go_keep
              | (go_split_ands; exact ⟨Nat.lt_of_lt_of_le (by assumption) hf6.2.size, (hf6.cell (p := ⟨wr.heap.size, 0, none⟩) (by assumption)).trans (by assumption), (hf6.cell (p := ⟨wr.heap.size, 1, none⟩) (by assumption)).trans (by assumption)⟩)
              | (go_split_ands; exact ⟨Nat.lt_of_lt_of_le (by assumption) hf7.2.size, (hf7.cell (p := ⟨wr.heap.size, 0, none⟩) (by assumption)).trans (by assumption), (hf7.cell (p := ⟨wr.heap.size, 1, none⟩) (by assumption)).trans (by assumption)⟩))
            (first
              | (go_at_call 47; refine (Hwn.out _).mono ?_; rintro e w6 ⟨rfl, hf6⟩)
              | (go_at_call 57; refine (Hw.out _).mono ?_; rintro e w7 ⟨rfl, hf7⟩))
          have hfb := (hfa.drew.trans hf6).trans hf7
          have hg0 : decide (0 < m) = false := decide_eq_false (by omega)
          rename_i hHeld
          obtain ⟨q0, q1, q2⟩ := hHeld
          clear hf6 hf7 hfa
          go_wp2_with fail
          go_quiet (fail)
          go_wp2_with fail
          go_roundw
          case rel => exact ⟨m + 1, by omega, by go_num, Hst, HT2, hfr.trans (hfb.drewN _)⟩
          case measure => simp [intOf] <;> omega
        · obtain ⟨j, hj⟩ : ∃ j, m = j + 1 := ⟨m - 1, by omega⟩
          obtain ⟨p, hp⟩ : ∃ p, l[j]? = some p := ⟨_, List.getElem?_eq_getElem (by omega)⟩
          have hpi := okB_in (HT.out j p (by omega) hp)
          obtain ⟨-, c2⟩ := hsa.cells hp
          have hnb : nearB l m s = decide (s.lo ≤ p.hi + 1) := by rw [hj]; exact nearB_succ hp
          rw [hnb] at hst
          have Hfin : Hid (decide (s.lo ≤ p.hi + 1) = true → r = (↑m, 14)) := fun h => hst.trans (if_pos h)
          have Hgo : Hid (decide (s.lo ≤ p.hi + 1) = false → r = spFrom l (m + 1)) := fun h => hst.trans (if_neg (by rw [h]; decide))
          have Hj := Lib.hid hj
          clear hst hs hok hsa hnb hp hj
          go_wp2_with fail
          generalize hW1 : wr.alloc (.cells #[.int .i64 s.lo, .int .i64 s.hi] 55) = W1 at *
          have hW1s : wr.heap.size < W1.heap.size := by rw [← hW1]; simp
          have HW1 := Lib.hid hW1
          clear hW1
          go_region_held3 (fun w' => wr.heap.size < w'.heap.size ∧ w'.cell? ⟨wr.heap.size, 0, none⟩ = some (.int .i64 s.lo) ∧ w'.cell? ⟨wr.heap.size, 1, none⟩ = some (.int .i64 s.hi))
            (first
              | go_keep
              | (go_split_ands; exact ⟨Nat.lt_of_lt_of_le (by assumption) hf6.2.size, (hf6.cell (p := ⟨wr.heap.size, 0, none⟩) (by assumption)).trans (by assumption), (hf6.cell (p := ⟨wr.heap.size, 1, none⟩) (by assumption)).trans (by assumption)⟩)
              | (go_split_ands; exact ⟨Nat.lt_of_lt_of_le (by assumption) hf7.2.size, (hf7.cell (p := ⟨wr.heap.size, 0, none⟩) (by assumption)).trans (by assumption), (hf7.cell (p := ⟨wr.heap.size, 1, none⟩) (by assumption)).trans (by assumption)⟩))
            (first
              | (go_at_call 47; refine (Hwn.out _).mono ?_; rintro e w6 ⟨rfl, hf6⟩)
              | (go_at_call 57; refine (Hw.out _).mono ?_; rintro e w7 ⟨rfl, hf7⟩))
          have hfb := (hfa.drew.trans hf6).trans hf7
          have hg0 : decide (0 < m) = true := decide_eq_true (by omega)
          rename_i hHeld
          obtain ⟨q0, q1, q2⟩ := hHeld
          have c3 : w7.cell? ⟨b, off + j * 2 + 1, none⟩ = some (.int .i64 p.hi) := (hfb.cell (p := ⟨b, off + j * 2 + 1, none⟩) hbw).trans c2
          have s1 : IntKind.i64.wrap ((m : Int) - 1) = (j : Int) := by have := Hj.out; exact (IntWalk.i64_in _ (by omega)).trans (by omega)
          have s2 : IntKind.i64.wrap (p.hi + 1) = p.hi + 1 := IntWalk.i64_in _ (by omega)
          have hjl : (j : Int) < l.length := by have := Hj.out; omega
          have hjn : (0 : Int) ≤ j := by omega
          clear hf6 hf7 hfa
          go_wp2_with fail
          go_quiet (fail)
          have Hfr := Lib.hid (hfr.trans (hfb.drewN nq))
          clear q0 q1 q2 c3 s1 s2 hfb n0 n1 hW1s HW1 hpi c2 hin
          generalize decide (s.lo ≤ p.hi + 1) = d at *
          cases d with
          | true =>
            have Hst := Lib.hid (Hfin.out rfl)
            go_wp2_with fail
            go_ret2
            exact ⟨by rw [Hst.out]; rfl, Hfr.out⟩
          | false =>
            have Hst := Lib.hid (Hgo.out rfl)
            go_wp2_with fail
            go_roundw
            case rel => exact ⟨m + 1, by omega, by go_num, Hst, HT2, Hfr.out⟩
            case measure => simp [intOf] <;> omega
    · have Hst := Lib.hid (HR.out.trans (spFrom_end (by omega)))
      go_wp2_with fail
      go_ret2
      exact ⟨by rw [Hst.out]; rfl, hfr⟩

end Go.Proofs.YtgdedcdjfljcnaaGreatDoor
