/- Contracts on two lists of spans put together by the library. -/
import Derived.Test.YtoelifebmhlokaaGreatDoorSEdges
import Derived.Lib.AppendZeros
import Derived.LoopN
namespace Go.Proofs.YtoelifebmhlokaaGreatDoor
open Go.RowKit

theorem zeroSize (n : Nat) : (Builtin.zeroCells (Value.agg #[.int .i64 0, .int .i64 0]).cells n).size = n * 2 := by
  rw [size_zeroCells]; rfl
set_option maxRecDepth 20000 in
theorem grow_any (n : Nat) (w : World) (hn : n ≤ 1000) :
    Calls Tryz.prog 46 #[.slice none 0 0, .int .i64 (n : Int)] w fun e w' => (∃ v, e = .returned v ∧ w'.ownsRow w.heap.size 53 2 v 0 []) ∧ Fr w.heap.size w w' := by
  obtain ⟨i0, hi0, hz0, hz1, hz2⟩ := info_parts span_info
  have hf := Fr.self w
  by_cases h0 : n = 0
  · subst h0
    have Hn := Lib.hid (World.ownsRow_nil w w.heap.size 53 2)
    go_enter Tryz.func46, Tryz.ntmps46
    go_wp2_with fail
    go_ret
    exact ⟨⟨_, rfl, Hn.out⟩, hf⟩
  · have hr := fun ty => Lib.run_append_nil_zeros (P := Tryz.prog) w 22 3 ty 53 i0 _ .i64 .i64 Tryz.underlying22 Tryz.underlying3 hi0 hz0 n (by omega) (by omega) (by omega) (by rw [hz2]; omega)
    have hgc := grownCap_ge w n 0 53
    have hgm := grownCap_le_maxLen w n 0 53 (by unfold maxLen; omega)
    have hfz := hf.drew.alloc (.cells (Builtin.zeroCells (Value.agg #[.int .i64 0, .int .i64 0]).cells n ++ Builtin.zeroCells (Value.agg #[.int .i64 0, .int .i64 0]).cells (grownCap w n 0 53 - n)) 53)
    have hown : (w.drew.alloc (.cells (Builtin.zeroCells (Value.agg #[.int .i64 0, .int .i64 0]).cells n ++ Builtin.zeroCells (Value.agg #[.int .i64 0, .int .i64 0]).cells (grownCap w n 0 53 - n)) 53)).ownsRow w.heap.size 53 2 (.slice (some ⟨w.heap.size, 0, none⟩) 0 (grownCap w n 0 53)) 0 [] :=
      ⟨rfl, .inr ⟨w.heap.size, _, _, rfl, Nat.le_refl _, heap_alloc_new w.drew _, Nat.zero_le _, hgm, by rw [Array.size_append, zeroSize, zeroSize]; omega, by rw [Nat.zero_mul, List.take_zero]⟩⟩
    generalize (Builtin.zeroCells (Value.agg #[.int .i64 0, .int .i64 0]).cells n ++ Builtin.zeroCells (Value.agg #[.int .i64 0, .int .i64 0]).cells (grownCap w n 0 53 - n)) = cs at *
    generalize grownCap w n 0 53 = c at *
    have Hr := Lib.hid hr; have Hown := Lib.hid hown; have Hf := Lib.hid hfz
    have hp : (0 : Int) < n := by omega
    have hle : (n : Int) ≤ c := by omega
    clear hr hown hfz
    go_enter Tryz.func46, Tryz.ntmps46
    go_wp2_with (at_builtin; refine Lib.wpList_append_run _ rfl _ _ _ _ rfl _ _ rfl rfl _ _ (Hr.out _) ?_)
    go_ret
    exact ⟨⟨_, rfl, Hown.out⟩, Hf.out⟩
set_option maxRecDepth 20000 in
theorem concat_any {B : Nat} (xs ys : List Sp) (A1 A2 : Option Addr) (c1 c2 g : Nat) (w : World) (h1 : SpAt B w A1 xs) (h2 : SpAt B w A2 ys) (h10 : A1 = none → c1 = 0) (h20 : A2 = none → c2 = 0) (hB : B ≤ w.heap.size) (hm1 : xs.length ≤ 100) (hm2 : ys.length ≤ 100)
    (hg : g < w.heap.size) (k0 : w.cell? ⟨g, 0, none⟩ = some (.slice A1 xs.length c1)) (k1 : w.cell? ⟨g, 1, none⟩ = some (.slice A2 ys.length c2)) :
    Calls Tryz.prog 30 #[.slice (some ⟨g, 0, none⟩) 2 2] w fun e w' => (∃ v, e = .returned v ∧ w'.ownsRow w.heap.size 53 2 v (xs.length + ys.length) (spCells (xs ++ ys))) ∧ Fr w.heap.size w w' := by
  obtain ⟨i0, hi0, hz0, hz1, hz2⟩ := info_parts span_info
  have hf := Fr.self w
  have H1 := Lib.hid h1; have H2 := Lib.hid h2
  have H10 : Hid (A1 = none → xs.length = 0 ∧ c1 = 0) := fun h => ⟨SpAt.empty h1 h, h10 h⟩
  have H20 : Hid (A2 = none → ys.length = 0 ∧ c2 = 0) := fun h => ⟨SpAt.empty h2 h, h20 h⟩
  have Hl1 := Lib.hid (spCells_length xs); have Hl2 := Lib.hid (spCells_length ys)
  have Ho1 := Lib.hid (spCells_one xs); have Ho2 := Lib.hid (spCells_one ys)
  have Happ := Lib.hid (spCells_append xs ys)
  clear h1 h2 h10 h20
  have hgr : ∀ w' : World, Calls Tryz.prog 46 #[.slice none 0 0, .int .i64 ((xs.length : Int) + ys.length)] w' fun e w'' => (∃ v, e = .returned v ∧ w''.ownsRow w'.heap.size 53 2 v 0 []) ∧ Fr w'.heap.size w' w'' := fun w' => by
    have := grow_any (xs.length + ys.length) w' (by omega)
    rwa [Int.natCast_add] at this
  have Hgr := Lib.hid (hgr w)
  clear hgr
  go_enter Tryz.func30, Tryz.ntmps30
  go_wp2_with fail
  refine wp_loop_rounds 3 ?_
  rw [rounds_succ]
  go_wp2_with fail
  rw [rounds_succ]
  go_wp2_with fail
  rw [rounds_succ]
  go_wp2_with fail
  refine (Hgr.out).mono ?_
  rintro e w1 ⟨⟨v, rfl, hown⟩, hf1⟩
  have Hown := Lib.hid hown
  have Hn1 := Lib.hid (H1.out.news (hf1.2.mono hB))
  have k2 : w1.cell? ⟨g, 0, none⟩ = some (.slice A1 xs.length c1) := (hf1.cell (p := ⟨g, 0, none⟩) hg).trans k0
  have k3 : w1.cell? ⟨g, 1, none⟩ = some (.slice A2 ys.length c2) := (hf1.cell (p := ⟨g, 1, none⟩) hg).trans k1
  have hs1 := hf1.2.size
  clear hown
  go_wp2_with fail
  refine wp_loop_rounds 3 ?_
  rw [rounds_succ]
  go_wp2_with (at_builtin; refine wpList_append_opt rfl _ _ 22 rfl w.heap.size 53 i0 _ 2 16 Tryz.underlying22 hi0 hz0 hz1 hz2 rfl (by decide) _ _ _ rfl Hown.out A1 xs.length c1 (spCells xs) rfl H10.out Hl1.out Hn1.out Ho1.out ?d3 ?d4 ?d5 ?_)
  case d3 => unfold maxLen; omega
  case d4 => omega
  case d5 => exact hs1
  intro v3 w3 hown3 hg3 _
  have hf3 : Fr w.heap.size w w3 := hf1.grown hg3 (fun g hg => (own_lt Hown.out hg).1)
  have Hown3 := Lib.hid hown3
  have Hn2 := Lib.hid (H2.out.news (hf3.2.mono hB))
  have k4 : w3.cell? ⟨g, 1, none⟩ = some (.slice A2 ys.length c2) := (hf3.cell (p := ⟨g, 1, none⟩) hg).trans k1
  have hs3 := hf3.2.size
  clear hown3 hg3 Hn1 H1
  go_wp2_with fail
  rw [rounds_succ]
  go_wp2_with (at_builtin; refine wpList_append_opt rfl _ _ 22 rfl w.heap.size 53 i0 _ 2 16 Tryz.underlying22 hi0 hz0 hz1 hz2 rfl (by decide) _ _ _ rfl Hown3.out A2 ys.length c2 (spCells ys) rfl H20.out Hl2.out Hn2.out Ho2.out ?d3 ?d4 ?d5 ?_)
  case d3 => unfold maxLen; omega
  case d4 => omega
  case d5 => exact hs3
  intro v4 w4 hown4 hg4 _
  have hf4 : Fr w.heap.size w w4 := hf3.grown hg4 (fun g hg => (own_lt Hown3.out hg).1)
  have Hown4 := Lib.hid hown4
  clear hown4 hg4
  go_wp2_with fail
  rw [rounds_succ]
  go_wp2_with fail
  go_ret
  refine ⟨⟨_, rfl, ?_⟩, hf4⟩
  rw [Happ.out]
  simpa using Hown4.out
end Go.Proofs.YtoelifebmhlokaaGreatDoor
