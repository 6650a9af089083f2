/- Contracts on two lists of spans put together by the library. The contract on spans with another one behind them. -/
import Derived.Test.YtgdedcdjfljcnaaGreatDoorM07
import Derived.Lib.AppendZeros
import Derived.LoopN
namespace Go.Proofs.YtgdedcdjfljcnaaGreatDoor
open Go.RowKit

theorem zeroSize (n : Nat) : (Builtin.zeroCells (Value.agg #[.int .i64 0, .int .i64 0]).cells n).size = n * 2 := by
  rw [size_zeroCells]; rfl
set_option maxRecDepth 20000 in
theorem grow_any (n : Nat) (w : World) (hn : n ≤ 1000) :
    Calls Tryz.prog 86 #[.slice none 0 0, .int .i64 (n : Int)] w fun e w' => (∃ v, e = .returned v ∧ w'.ownsRow w.heap.size 55 2 v 0 []) ∧ Fr w.heap.size w w' := by
  obtain ⟨i0, hi0, hz0, hz1, hz2⟩ := info_parts span_info
  have hf := Fr.self w
  by_cases h0 : n = 0
  · subst h0
    have Hn := Lib.hid (World.ownsRow_nil w w.heap.size 55 2)
    go_enter Tryz.func86, Tryz.ntmps86
    go_wp2_with fail
    go_ret
    exact ⟨⟨_, rfl, Hn.out⟩, hf⟩
  · have hr := fun ty => Lib.run_append_nil_zeros (P := Tryz.prog) w 34 3 ty 55 i0 _ .i64 .i64 Tryz.underlying34 Tryz.underlying3 hi0 hz0 n (by omega) (by omega) (by omega) (by rw [hz2]; omega)
    have hgc := grownCap_ge w n 0 55
    have hgm := grownCap_le_maxLen w n 0 55 (by unfold maxLen; omega)
    have hfz := hf.drew.alloc (.cells (Builtin.zeroCells (Value.agg #[.int .i64 0, .int .i64 0]).cells n ++ Builtin.zeroCells (Value.agg #[.int .i64 0, .int .i64 0]).cells (grownCap w n 0 55 - n)) 55)
    have hown : (w.drew.alloc (.cells (Builtin.zeroCells (Value.agg #[.int .i64 0, .int .i64 0]).cells n ++ Builtin.zeroCells (Value.agg #[.int .i64 0, .int .i64 0]).cells (grownCap w n 0 55 - n)) 55)).ownsRow w.heap.size 55 2 (.slice (some ⟨w.heap.size, 0, none⟩) 0 (grownCap w n 0 55)) 0 [] :=
      ⟨rfl, .inr ⟨w.heap.size, _, _, rfl, Nat.le_refl _, heap_alloc_new w.drew _, Nat.zero_le _, hgm, by rw [Array.size_append, zeroSize, zeroSize]; omega, by rw [Nat.zero_mul, List.take_zero]⟩⟩
    generalize (Builtin.zeroCells (Value.agg #[.int .i64 0, .int .i64 0]).cells n ++ Builtin.zeroCells (Value.agg #[.int .i64 0, .int .i64 0]).cells (grownCap w n 0 55 - n)) = cs at *
    generalize grownCap w n 0 55 = c at *
    have Hr := Lib.hid hr; have Hown := Lib.hid hown; have Hf := Lib.hid hfz
    have hp : (0 : Int) < n := by omega
    have hle : (n : Int) ≤ c := by omega
    clear hr hown hfz
    go_enter Tryz.func86, Tryz.ntmps86
    go_wp2_with (at_builtin; refine Lib.wpList_append_run _ rfl _ _ _ _ rfl _ _ rfl rfl _ _ (Hr.out _) ?_)
    go_ret
    exact ⟨⟨_, rfl, Hown.out⟩, Hf.out⟩
set_option maxRecDepth 20000 in
theorem concat_any {B : Nat} (xs ys : List Sp) (A1 A2 : Option Addr) (c1 c2 g : Nat) (w : World) (h1 : SpAt B w A1 xs) (h2 : SpAt B w A2 ys) (h10 : A1 = none → c1 = 0) (h20 : A2 = none → c2 = 0) (hB : B ≤ w.heap.size) (hm1 : xs.length ≤ 100) (hm2 : ys.length ≤ 100)
    (hg : g < w.heap.size) (k0 : w.cell? ⟨g, 0, none⟩ = some (.slice A1 xs.length c1)) (k1 : w.cell? ⟨g, 1, none⟩ = some (.slice A2 ys.length c2)) :
    Calls Tryz.prog 58 #[.slice (some ⟨g, 0, none⟩) 2 2] w fun e w' => (∃ v, e = .returned v ∧ w'.ownsRow w.heap.size 55 2 v (xs.length + ys.length) (spCells (xs ++ ys))) ∧ Fr w.heap.size w w' := by
  obtain ⟨i0, hi0, hz0, hz1, hz2⟩ := info_parts span_info
  have hf := Fr.self w
  have H1 := Lib.hid h1; have H2 := Lib.hid h2
  have H10 : Hid (A1 = none → xs.length = 0 ∧ c1 = 0) := fun h => ⟨SpAt.empty h1 h, h10 h⟩
  have H20 : Hid (A2 = none → ys.length = 0 ∧ c2 = 0) := fun h => ⟨SpAt.empty h2 h, h20 h⟩
  have Hl1 := Lib.hid (spCells_length xs); have Hl2 := Lib.hid (spCells_length ys)
  have Ho1 := Lib.hid (spCells_one xs); have Ho2 := Lib.hid (spCells_one ys)
  have Happ := Lib.hid (spCells_append xs ys)
  clear h1 h2 h10 h20
  have hgr : ∀ w' : World, Calls Tryz.prog 86 #[.slice none 0 0, .int .i64 ((xs.length : Int) + ys.length)] w' fun e w'' => (∃ v, e = .returned v ∧ w''.ownsRow w'.heap.size 55 2 v 0 []) ∧ Fr w'.heap.size w' w'' := fun w' => by
    have := grow_any (xs.length + ys.length) w' (by omega)
    rwa [Int.natCast_add] at this
  have Hgr := Lib.hid (hgr w)
  clear hgr
  go_enter Tryz.func58, Tryz.ntmps58
  go_wp2_with fail
  refine wp_loop_rounds 3 ?_
  rw [rounds_succ]
  go_wp2_with fail
  rw [rounds_succ]
  go_wp2_with fail
  rw [rounds_succ]
  go_wp2_with fail
  refine (Hgr.out).mono ?_
  rintro e w1 ⟨⟨v, rfl, hown⟩, hf1⟩
  have Hown := Lib.hid hown
  have Hn1 := Lib.hid (H1.out.news (hf1.2.mono hB))
  have k2 : w1.cell? ⟨g, 0, none⟩ = some (.slice A1 xs.length c1) := (hf1.cell (p := ⟨g, 0, none⟩) hg).trans k0
  have k3 : w1.cell? ⟨g, 1, none⟩ = some (.slice A2 ys.length c2) := (hf1.cell (p := ⟨g, 1, none⟩) hg).trans k1
  have hs1 := hf1.2.size
  clear hown
  go_wp2_with fail
  refine wp_loop_rounds 3 ?_
  rw [rounds_succ]
  go_wp2_with (at_builtin; refine wpList_append_opt rfl _ _ 34 rfl w.heap.size 55 i0 _ 2 16 Tryz.underlying34 hi0 hz0 hz1 hz2 rfl (by decide) _ _ _ rfl Hown.out A1 xs.length c1 (spCells xs) rfl H10.out Hl1.out Hn1.out Ho1.out ?d3 ?d4 ?d5 ?_)
  case d3 => unfold maxLen; omega
  case d4 => omega
  case d5 => exact hs1
  intro v3 w3 hown3 hg3 _
  have hf3 : Fr w.heap.size w w3 := hf1.grown hg3 (fun g hg => (own_lt Hown.out hg).1)
  have Hown3 := Lib.hid hown3
  have Hn2 := Lib.hid (H2.out.news (hf3.2.mono hB))
  have k4 : w3.cell? ⟨g, 1, none⟩ = some (.slice A2 ys.length c2) := (hf3.cell (p := ⟨g, 1, none⟩) hg).trans k1
  have hs3 := hf3.2.size
  clear hown3 hg3 Hn1 H1
  go_wp2_with fail
  rw [rounds_succ]
  go_wp2_with (at_builtin; refine wpList_append_opt rfl _ _ 34 rfl w.heap.size 55 i0 _ 2 16 Tryz.underlying34 hi0 hz0 hz1 hz2 rfl (by decide) _ _ _ rfl Hown3.out A2 ys.length c2 (spCells ys) rfl H20.out Hl2.out Hn2.out Ho2.out ?d3 ?d4 ?d5 ?_)
  case d3 => unfold maxLen; omega
  case d4 => omega
  case d5 => exact hs3
  intro v4 w4 hown4 hg4 _
  have hf4 : Fr w.heap.size w w4 := hf3.grown hg4 (fun g hg => (own_lt Hown3.out hg).1)
  have Hown4 := Lib.hid hown4
  clear hown4 hg4
  go_wp2_with fail
  rw [rounds_succ]
  go_wp2_with fail
  go_ret
  refine ⟨⟨_, rfl, ?_⟩, hf4⟩
  rw [Happ.out]
  simpa using Hown4.out
end Go.Proofs.YtgdedcdjfljcnaaGreatDoor
namespace Go.Proofs.YtgdedcdjfljcnaaGreatDoor
open Go.RowKit

/-- Spans with another one behind them, as a part of the last one if no number is between. -/
def appL (l : List Sp) (s : Sp) : List Sp :=
  match l.getLast? with
  | none => [s]
  | some p => if p.hi + 1 = s.lo then l.dropLast ++ [⟨p.lo, s.hi⟩] else l ++ [s]
theorem appL_nil (s : Sp) : appL [] s = [s] := rfl
theorem appL_join {l : List Sp} {p s : Sp} (h : p.hi + 1 = s.lo) : appL (l ++ [p]) s = l ++ [⟨p.lo, s.hi⟩] := by
  unfold appL
  rw [List.getLast?_concat]
  simp only [if_pos h, List.dropLast_concat]
theorem appL_apart {l : List Sp} {p s : Sp} (h : p.hi + 1 ≠ s.lo) : appL (l ++ [p]) s = l ++ [p] ++ [s] := by
  unfold appL
  rw [List.getLast?_concat]
  simp only [if_neg h]
theorem own_set {w : World} {base : Nat} {e : TypeId} {size n g cap k : Nat} {xs : List Value} {u : Value} (h : w.ownsRow base e size (.slice (some ⟨g, 0, none⟩) n cap) n xs) (_hk : k < n * size) :
    (w.setCell ⟨g, k, none⟩ u).ownsRow base e size (.slice (some ⟨g, 0, none⟩) n cap) n (xs.set k u) := by
  obtain ⟨hl, h⟩ := h
  rcases h with ⟨h1, -⟩ | ⟨g', cap', cur, hv, hb, hh, h1, h2, h3, h4⟩
  · cases h1
  · cases hv
    refine ⟨by rw [List.length_set]; exact hl, .inr ⟨g, cap, cur.setIfInBounds k u, rfl, hb, ?_, h1, h2, by rw [Array.size_setIfInBounds]; exact h3, ?_⟩⟩
    · simp [World.setCell, Array.getElem?_modify, hh]
    · rw [Array.toList_setIfInBounds, ← h4, List.take_set]
theorem _root_.Go.World.ownsRow.drewN {w : World} {base : Nat} {e : TypeId} {size n : Nat} {v : Value} {xs : List Value} (h : w.ownsRow base e size v n xs) (q : Nat) : (w.drewN q).ownsRow base e size v n xs := h
theorem own_frozen {w : World} {base : Nat} {e : TypeId} {size n g cap k : Nat} {xs : List Value} (h : w.ownsRow base e size (.slice (some ⟨g, 0, none⟩) n cap) n xs) : w.frozen? ⟨g, k, none⟩ = false := by
  obtain ⟨hl, h⟩ := h
  rcases h with ⟨h1, -⟩ | ⟨g', cap', cur, hv, hb, hh, -⟩
  · cases h1
  · cases hv
    simp [World.frozen?, hh]
theorem spCells_join (l : List Sp) (p : Sp) (n : Int) : (spCells (l ++ [p])).set (l.length * 2 + 1) (.int .i64 n) = spCells (l ++ [⟨p.lo, n⟩]) := by
  rw [spCells_append, spCells_append, List.set_append_right _ _ (by rw [spCells_length]; omega), spCells_length]
  rw [Nat.add_sub_cancel_left]; rfl
set_option maxRecDepth 20000 in
theorem appended_any (l : List Sp) (s : Sp) (v : Value) (base : Nat) (w : World) (h : w.ownsRow base 55 2 v l.length (spCells l)) (hbase : base ≤ w.heap.size) (hb : ∀ p ∈ l, -4611686018427387904 ≤ p.hi ∧ p.hi ≤ 4611686018427387904) (hlen : l.length ≤ 1000) :
    Calls Tryz.prog 62 #[v, .agg #[.int .i64 s.lo, .int .i64 s.hi]] w fun e w' => (∃ v', e = .returned v' ∧ w'.ownsRow base 55 2 v' (appL l s).length (spCells (appL l s))) ∧ Fr base w w' := by
  obtain ⟨i0, hi0, hz0, hz1, hz2⟩ := info_parts span_info
  obtain ⟨a, b⟩ := s
  simp only
  have hf := (Fr.refl hbase).alloc (.cells #[.int .i64 a, .int .i64 b] 55)
  have hnews : ∀ q, ∀ ad, some (⟨w.heap.size + 1, 0, none⟩ : Addr) = some ad → ∀ j u, (spCells [⟨a, b⟩])[j]? = some u → (((w.alloc (.cells #[.int .i64 a, .int .i64 b] 55)).drewN q).alloc (.cells #[.int .i64 a, .int .i64 b] 55)).cell? (ad.add j) = some u := fun q ad h j u hu => by
    injection h with h
    subst h
    have := cells_new ((w.alloc (.cells #[.int .i64 a, .int .i64 b] 55)).drewN q) #[.int .i64 a, .int .i64 b] 55 j u hu
    simpa using this
  have Hnews := Lib.hid hnews
  clear hnews
  rcases List.eq_nil_or_concat l with rfl | ⟨l', p, rfl⟩
  · have Hv := Lib.hid (appL_nil ⟨a, b⟩)
    have Hown := Lib.hid (h.alloc (.cells #[.int .i64 a, .int .i64 b] 55))
    rcases own_cases h with ⟨rfl, -, -⟩ | ⟨g, cap, rfl, -, hg, -, -⟩
    all_goals
      clear h
      have H1 := Lib.hid (spCells_one [⟨a, b⟩])
      go_enter Tryz.func62, Tryz.ntmps62
      go_wp2_with fail
      go_quiet (fail)
      go_wp2_with (at_builtin; go_loud (refine wpList_append_opt rfl _ _ 34 rfl base 55 i0 _ 2 16 Tryz.underlying34 hi0 hz0 hz1 hz2 rfl (by decide) _ _ _ rfl ((Hown.out.drewN nq).alloc _) (some ⟨w.heap.size + 1, 0, none⟩) 1 1 (spCells [⟨a, b⟩]) rfl (fun h => by cases h) rfl (Hnews.out _) H1.out ?d3 ?d4 ?d5 ?_))
      case d3 => unfold maxLen; omega
      case d4 => omega
      case d5 => simp; omega
      intro v4 w4 hown4 hg4 _
      have hf4 : Fr base w w4 := ((hf.drewN nq).alloc _).grown hg4 (fun g hg => (own_lt Hown.out hg).1)
      have Hown4 := Lib.hid hown4
      clear hown4 hg4
      go_wp2_with fail
      go_ret
      refine ⟨⟨_, rfl, ?_⟩, hf4⟩
      rw [Hv.out]
      have h4 := Hown4.out
      rw [← spCells_append, List.nil_append] at h4
      simpa using h4
  · rw [List.concat_eq_append] at *
    obtain ⟨hb1, hb2⟩ := hb p (by simp)
    have hn : (l' ++ [p]).length = l'.length + 1 := by simp
    rw [hn] at h hlen
    obtain ⟨c0, hcc⟩ := spCells_get (l' ++ [p]) l'.length p (by simp)
    rcases own_cases h with ⟨-, h0, -⟩ | ⟨g, cap, rfl, hg0, hg, hcap, hcl⟩
    · omega
    have c1 : (w.alloc (.cells #[.int .i64 a, .int .i64 b] 55)).cell? ⟨g, l'.length * 2 + 1, none⟩ = some (.int .i64 p.hi) := (((Fr.self w).alloc _).cell (p := ⟨g, l'.length * 2 + 1, none⟩) hg).trans (hcl _ _ hcc)
    have f1 : (w.alloc (.cells #[.int .i64 a, .int .i64 b] 55)).frozen? ⟨g, l'.length * 2 + 1, none⟩ = false := own_frozen (h.alloc _)
    have Hown := Lib.hid (h.alloc (.cells #[.int .i64 a, .int .i64 b] 55))
    have n0 : (w.alloc (.cells #[.int .i64 a, .int .i64 b] 55)).cell? ⟨w.heap.size, 0, none⟩ = some (.int .i64 a) := cell_new w _ _ 0
    have n1 : (w.alloc (.cells #[.int .i64 a, .int .i64 b] 55)).cell? ⟨w.heap.size, 1, none⟩ = some (.int .i64 b) := cell_new w _ _ 1
    have s1 : IntKind.i64.wrap ((l'.length : Int) + 1 - 1) = (l'.length : Int) := (IntWalk.i64_in _ (by omega)).trans (by omega)
    have s3 : (l'.length : Int) + 1 - 1 = (l'.length : Int) := by omega
    have s2 : IntKind.i64.wrap (p.hi + 1) = p.hi + 1 := IntWalk.i64_in _ (by omega)
    have hl0 : (0 : Int) ≤ l'.length := by omega
    have hl1 : (l'.length : Int) < (l'.length : Int) + 1 := by omega
    by_cases he : p.hi + 1 = a
    · have Hv := Lib.hid (appL_join (l := l') (p := p) (s := ⟨a, b⟩) he)
      have heb : (p.hi + 1 == a) = true := by simpa using he
      have Hj := Lib.hid (spCells_join l' p b)
      clear h hcl hcc c0 he hn
      go_enter Tryz.func62, Tryz.ntmps62
      go_wp2_with fail
      go_quiet (fail)
      go_wp2_with fail
      go_ret
      refine ⟨⟨_, rfl, ?_⟩, (hf.drewN nq).setCell (by simpa using hg0) _⟩
      rw [Hv.out, ← Hj.out]
      have hn : (l' ++ [(⟨p.lo, b⟩ : Sp)]).length = l'.length + 1 := by simp
      rw [hn]
      exact own_set (Hown.out.drewN nq) (by omega)
    · have Hv := Lib.hid (appL_apart (l := l') (p := p) (s := ⟨a, b⟩) he)
      have heb : (p.hi + 1 == a) = false := by simpa using he
      have H1 := Lib.hid (spCells_one [⟨a, b⟩])
      clear h hcl hcc c0 he hn
      go_enter Tryz.func62, Tryz.ntmps62
      go_wp2_with fail
      go_quiet (fail)
      go_wp2_with (at_builtin; refine wpList_append_opt rfl _ _ 34 rfl base 55 i0 _ 2 16 Tryz.underlying34 hi0 hz0 hz1 hz2 rfl (by decide) _ _ _ rfl ((Hown.out.drewN nq).alloc _) (some ⟨w.heap.size + 1, 0, none⟩) 1 1 (spCells [⟨a, b⟩]) rfl (fun h => by cases h) rfl (Hnews.out _) H1.out ?d3 ?d4 ?d5 ?_)
      case d3 => unfold maxLen; omega
      case d4 => omega
      case d5 => simp; omega
      intro v4 w4 hown4 hg4 _
      have hf4 : Fr base w w4 := ((hf.drewN nq).alloc _).grown hg4 (fun g hg => (own_lt Hown.out hg).1)
      have Hown4 := Lib.hid hown4
      clear hown4 hg4
      go_wp2_with fail
      go_ret
      refine ⟨⟨_, rfl, ?_⟩, hf4⟩
      rw [Hv.out]
      have h4 := Hown4.out
      rw [← spCells_append] at h4
      have hn : (l' ++ [p] ++ [(⟨a, b⟩ : Sp)]).length = l'.length + 1 + 1 := by simp
      rw [hn]
      exact h4
end Go.Proofs.YtgdedcdjfljcnaaGreatDoor
