/- What each node of a constraint is about: subjects. The contract on subjects. Nodes of constraints of whole numbers, each by itself: nodeError. -/
import Derived.Test.YtgdedcdjfljcnaaGreatDoorM13
namespace Go.Proofs.YtgdedcdjfljcnaaGreatDoor
open Go.RowKit Go.Shelf
attribute [local go_sem] Oper.semAt_some

/-- What one node says of its operands. -/
def subjArg (x : NX) (s : List Int) (a : Int) : List Int := s.set a.toNat (operSubj x.nd.kind (s.getD x.i 0))
def subjTop (kd : Int) (n : Nat) (x : NX) (s : List Int) : List Int := if x.i + 1 = n then s.set x.i (subj kd) else s
def subjNode (kd : Int) (n : Nat) (s : List Int) (x : NX) : List Int := x.nd.args.foldl (subjArg x) (subjTop kd n x s)
def subjAll (kd : Int) (n : Nat) (xs : List NX) : List Int := xs.foldl (subjNode kd n) (List.replicate n 0)
theorem subjArg_length (x : NX) (s : List Int) (a : Int) : (subjArg x s a).length = s.length := List.length_set
theorem subjTop_length (kd : Int) (n : Nat) (x : NX) (s : List Int) : (subjTop kd n x s).length = s.length := by unfold subjTop; split <;> simp
theorem foldl_length {α : Type} {f : List Int → α → List Int} (hf : ∀ s a, (f s a).length = s.length) : ∀ (l : List α) (s : List Int), (l.foldl f s).length = s.length
  | [], _ => rfl
  | a :: l, s => by rw [List.foldl_cons, foldl_length hf l, hf]
theorem subjNode_length (kd : Int) (n : Nat) (s : List Int) (x : NX) : (subjNode kd n s x).length = s.length := by unfold subjNode; rw [foldl_length (subjArg_length x), subjTop_length]
theorem subjAll_length (kd : Int) (n : Nat) (xs : List NX) : (subjAll kd n xs).length = n := by unfold subjAll; rw [foldl_length (subjNode_length kd n), List.length_replicate]
theorem subjAll_snoc (kd : Int) (n : Nat) (xs : List NX) (x : NX) : subjAll kd n (xs ++ [x]) = subjNode kd n (subjAll kd n xs) x := by unfold subjAll; rw [List.foldl_append]; rfl
/-- A row of numbers that a block holds, all of it, and that may be written. -/
def RowB (W : World) (g : Nat) (s : List Int) : Prop := (∀ j x, s[j]? = some x → W.cell? ⟨g, j, none⟩ = some (.int .i64 x)) ∧ ∀ j x, s[j]? = some x → W.frozen? ⟨g, j, none⟩ = false
theorem rowB_own {β : Type} (g : Nat) (f : β → List Int) : Own (fun s W => RowB W g (f s)) := fun _s _A _B _row hs hg hr =>
  ⟨fun j x hx => cell_kept (hs.1 j x hx) hg hr, fun j x hx => (frozen_kept (hs.1 j x hx) hg hr).trans (hs.2 j x hx)⟩
theorem RowB.set {W : World} {g : Nat} {s : List Int} (h : RowB W g s) (i : Nat) (v : Int) : RowB (W.setCell ⟨g, i, none⟩ (.int .i64 v)) g (s.set i v) := by
  refine ⟨fun j x hx => ?_, fun j x hx => ?_⟩
  · rw [List.getElem?_set] at hx
    by_cases e : i = j
    · subst e
      rw [if_pos rfl] at hx
      split at hx
      · rename_i hi
        cases hx
        exact World.cell?_setCell_same _ _ _ (h.1 i _ (List.getElem?_eq_getElem hi))
      · cases hx
    · rw [if_neg e] at hx
      rw [World.cell?_setCell_other _ _ _ _ (by intro e1; cases e1; exact e rfl)]
      exact h.1 j x hx
  · rw [World.frozen?_setCell]
    rw [List.getElem?_set] at hx
    by_cases e : i = j
    · subst e
      rw [if_pos rfl] at hx
      split at hx
      · rename_i hi
        exact h.2 i _ (List.getElem?_eq_getElem hi)
      · cases hx
    · rw [if_neg e] at hx
      exact h.2 j x hx
theorem RowB.keep {W W' : World} {g : Nat} {s : List Int} (h : RowB W g s) (hc : ∀ j, W'.cell? ⟨g, j, none⟩ = W.cell? ⟨g, j, none⟩) (hz : ∀ j, W'.frozen? ⟨g, j, none⟩ = W.frozen? ⟨g, j, none⟩) : RowB W' g s := ⟨fun j x hx => (hc j).trans (h.1 j x hx), fun j x hx => (hz j).trans (h.2 j x hx)⟩
/-- make([]int, n). -/
theorem make_ints (n : Nat) (hn : n ≤ 100000) (w : World) :
    (Instr.makeSlice 64 (.int .i64 (n : Int)) (.int .i64 (n : Int))).run Tryz.prog w = .ok (.slice (some ⟨w.heap.size, 0, none⟩) n n) (w.alloc (.cells (madeCells #[.int .i64 0] n) 3)) := by
  obtain ⟨j0, hj0, hy0, hy1, hy2⟩ := info_parts int_info
  have hr := run_make (P := Tryz.prog) w 64 3 j0 (.int .i64 0) Tryz.underlying64 hj0 hy0 .i64 .i64 n n (by omega) (by omega) (by rw [hy2]; omega) (by omega)
  simp only [Int.toNat_natCast, hy1, Nat.mul_one] at hr
  exact hr
theorem rowB_made (n : Nat) (w : World) : RowB (w.alloc (.cells (madeCells #[.int .i64 0] n) 3)) w.heap.size (List.replicate n 0) := by
  refine ⟨fun j x hx => ?_, fun j x hx => frozen_new _ _ _ j⟩
  rw [cell_new, ← Array.getElem?_toList, toList_madeCells_one]
  obtain ⟨h1, h2⟩ := List.getElem?_eq_some_iff.1 hx
  rw [List.length_replicate] at h1
  rw [List.getElem_replicate] at h2
  subst h2
  rw [List.getElem?_replicate, if_pos h1]
end Go.Proofs.YtgdedcdjfljcnaaGreatDoor
namespace Go.Proofs.YtgdedcdjfljcnaaGreatDoor
open Go.RowKit Go.Shelf
attribute [local go_sem] Oper.semAt_some

/-- What a round finds. -/
def SubI (B : Nat) (w : World) (kd : Int) (n : Nat) (pre : List (GX B w n)) (W : World) : Prop :=
  (W.cell? ⟨w.heap.size, 0, none⟩ = some (.int .i64 kd) ∧ W.cell? ⟨w.heap.size + 1 + 1, 0, none⟩ = some (.slice (some ⟨w.heap.size + 1, 0, none⟩) n n)) ∧ RowB W (w.heap.size + 1) (subjAll kd n (pre.map (·.1))) ∧ Below w.heap.size w W ∧ w.heap.size + 1 + 1 + 1 + 1 ≤ W.heap.size
theorem subI_own (B : Nat) (w : World) (kd : Int) (n M : Nat) (hM : w.heap.size ≤ M) : OwnFrom M (SubI B w kd n) :=
  OwnFrom.and (Own.from (fun _ _ _ _ hs hg hr => ⟨cell_kept hs.1 hg hr, cell_kept hs.2 hg hr⟩) _) (OwnFrom.and (Own.from (rowB_own _ (fun pre : List (GX B w n) => subjAll kd n (pre.map (·.1)))) _) (OwnFrom.and (ownFrom_below (Nat.le_refl _) hM) (fun _ _ _ _ hs hg _ => Nat.le_trans hs hg.size)))

/-- The world within a round. -/
structure SubM (w : World) (kd : Int) (n M : Nat) (Wr : World) (Bx : Nat) (kx : Int) (Ax : Option Addr) (na cx : Nat) (g : List Int) (W : World) : Prop where
  kind : W.cell? ⟨w.heap.size, 0, none⟩ = some (.int .i64 kd)
  box : W.cell? ⟨w.heap.size + 1 + 1, 0, none⟩ = some (.slice (some ⟨w.heap.size + 1, 0, none⟩) n n)
  row : RowB W (w.heap.size + 1) g
  below : Below w.heap.size w W
  size : w.heap.size + 1 + 1 + 1 + 1 ≤ W.heap.size
  nk : W.cell? ⟨Bx, 0, none⟩ = some (.int .i64 kx)
  na : W.cell? ⟨Bx, 4, none⟩ = some (.slice Ax na cx)
  keeps : KeepsFrom M Wr W
  kp : KpB w.heap.size (w.heap.size + 1 + 1 + 1) Wr W
theorem SubM.set {w : World} {kd : Int} {n M : Nat} {Wr : World} {Bx : Nat} {kx : Int} {Ax : Option Addr} {na cx : Nat} {g : List Int} {W : World} (h : SubM w kd n M Wr Bx kx Ax na cx g W) (hB : w.heap.size + 1 + 1 + 1 < Bx) (i : Nat) (v : Int) :
    SubM w kd n M Wr Bx kx Ax na cx (g.set i v) (W.drew.setCell ⟨w.heap.size + 1, i, none⟩ (.int .i64 v)) := by
  obtain ⟨h1, h2, h3, h4, h5, h6, h7, h8, h9⟩ := h
  have hne : ∀ (b j : Nat), b ≠ w.heap.size + 1 → (W.drew.setCell ⟨w.heap.size + 1, i, none⟩ (.int .i64 v)).cell? ⟨b, j, none⟩ = W.cell? ⟨b, j, none⟩ := fun b j hb => World.cell?_setCell_other _ _ _ _ (by intro e; cases e; exact hb rfl)
  have hb : Below w.heap.size W (W.drew.setCell ⟨w.heap.size + 1, i, none⟩ (.int .i64 v)) := ((Below.refl _ W).drew).setCell (p := ⟨w.heap.size + 1, i, none⟩) (by simp) _
  have hd : RowB W.drew (w.heap.size + 1) g := ⟨fun j x hx => h3.1 j x hx, fun j x hx => h3.2 j x hx⟩
  exact ⟨(hne _ _ (by omega)).trans h1, (hne _ _ (by omega)).trans h2, hd.set i v, h4.trans hb, Nat.le_trans h5 hb.size, (hne _ _ (by omega)).trans h6, (hne _ _ (by omega)).trans h7,
    h8.trans ((KeepsFrom.trans (Y := W.drew) ⟨Nat.le_refl _, fun k o _ hk _ => hk⟩ ((KeepsOthers.setCell W.drew _ _).from _))), h9.trans ⟨hb, hne _ _ (by omega)⟩⟩

set_option maxRecDepth 100000 in
set_option maxHeartbeats 4000000 in
theorem subjects_any {B : Nat} (l : List LN) (A : Option Addr) (ca : Nat) (kd : Int) (X1 X2 X3 X4 X5 X6 : Value) (w : World) (h : LimAt B w A l) (hB : B ≤ w.heap.size) (hl : l.length ≤ 20) (hargs : ∀ (i : Nat) (x : LN), l[i]? = some x → (∀ a ∈ x.args, 0 ≤ a ∧ a < (i : Int)) ∧ x.args.length ≤ 20) (hne : l ≠ []) :
    Calls Tryz.prog 73 #[.agg #[.int .i64 kd, X1, X2, X3, X4, X5, X6, .slice A l.length ca]] w fun e W' => ∃ xs : List NX, xs.length = l.length ∧ (∀ (k : Nat) x, xs[k]? = some x → x.i = l.length - 1 - k ∧ l[x.i]? = some x.nd) ∧
      e = .returned (.slice (some ⟨w.heap.size + 1, 0, none⟩) l.length l.length) ∧ Below w.heap.size w W' ∧ (∀ j x, (subjAll kd l.length xs)[j]? = some x → W'.cell? ⟨w.heap.size + 1, j, none⟩ = some (.int .i64 x)) := by
  obtain ⟨f, hf, b, off, rfl, hbB, hcs⟩ := nodes_back h hargs hne
  have hpos : 0 < l.length := by cases l <;> simp_all
  refine (callsIn_wide (n := 100)).1 ?_
  refine callsIn_of_wp_marks Tryz.func73 rfl trivial ?_ rfl
  simp only [Tryz.ntmps73, List.size_toArray, List.length_cons, List.length_nil, Nat.reduceAdd, Nat.reduceSub, Array.replicate_succ, Array.replicate_zero, List.push_toArray, List.append_toArray, List.nil_append, List.cons_append]
  have Hcs := Lib.hid hcs; have Hf := Lib.hid hf; have Hargs := Lib.hid hargs
  have hlm : l.length ≤ 281474976710656 := by omega
  clear hcs hf hargs h
  have hmk := fun w => make_ints l.length (by omega) w
  gi_wp2_with fail
  refine ⟨trivial, (Backward_in Fence.wide 99 trivial rfl _ _ _ _).mono ?_⟩
  rintro e w' ⟨rfl, rfl⟩
  gi_wp2_with fail
  clear hmk
  have c0 := cell_new w #[.int .i64 kd, X1, X2, X3, X4, X5, X6, .slice (some ⟨b, off, none⟩) l.length ca] 28 0
  have z0 : (w.alloc (.cells #[.int .i64 kd, X1, X2, X3, X4, X5, X6, .slice (some ⟨b, off, none⟩) l.length ca] 28)).heap.size = w.heap.size + 1 := by simp
  have b0 : Below w.heap.size w (w.alloc (.cells #[.int .i64 kd, X1, X2, X3, X4, X5, X6, .slice (some ⟨b, off, none⟩) l.length ca] 28)) := (Below.refl _ _).alloc (Nat.le_refl _) _
  generalize w.alloc (.cells #[.int .i64 kd, X1, X2, X3, X4, X5, X6, .slice (some ⟨b, off, none⟩) l.length ca] 28) = Wa at *
  have r1 := rowB_made l.length Wa
  have c1 : (Wa.alloc (.cells (madeCells #[.int .i64 0] l.length) 3)).cell? ⟨w.heap.size, 0, none⟩ = some (.int .i64 kd) := (World.cell?_alloc_lt _ _ _ (by rw [z0]; exact Nat.lt_succ_self _)).trans c0
  have z1 : (Wa.alloc (.cells (madeCells #[.int .i64 0] l.length) 3)).heap.size = w.heap.size + 1 + 1 := by simp [z0]
  have b1 : Below w.heap.size w (Wa.alloc (.cells (madeCells #[.int .i64 0] l.length) 3)) := b0.alloc (by omega) _
  rw [z0] at r1
  generalize Wa.alloc (.cells (madeCells #[.int .i64 0] l.length) 3) = Wb at *
  clear c0 z0 b0
  have c2 : (Wb.alloc (.cells #[.slice (some ⟨w.heap.size + 1, 0, none⟩) l.length l.length] 64)).cell? ⟨w.heap.size, 0, none⟩ = some (.int .i64 kd) := (World.cell?_alloc_lt _ _ _ (by rw [z1]; show w.heap.size < _; omega)).trans c1
  have r2 : RowB (Wb.alloc (.cells #[.slice (some ⟨w.heap.size + 1, 0, none⟩) l.length l.length] 64)) (w.heap.size + 1) (List.replicate l.length 0) := (rowB_own (w.heap.size + 1) (fun _ : Unit => List.replicate l.length 0)).alloc _ (s := ()) r1
  have d2 := cell_new Wb #[.slice (some ⟨w.heap.size + 1, 0, none⟩) l.length l.length] 64 0
  have z2 : (Wb.alloc (.cells #[.slice (some ⟨w.heap.size + 1, 0, none⟩) l.length l.length] 64)).heap.size = w.heap.size + 1 + 1 + 1 := by simp [z1]
  have b2 : Below w.heap.size w (Wb.alloc (.cells #[.slice (some ⟨w.heap.size + 1, 0, none⟩) l.length l.length] 64)) := b1.alloc (by omega) _
  rw [z1] at d2
  generalize Wb.alloc (.cells #[.slice (some ⟨w.heap.size + 1, 0, none⟩) l.length l.length] 64) = Wc at *
  clear c1 r1 z1 b1
  have c3 : (Wc.alloc (.cells #[.slice (some ⟨b, off, none⟩) l.length ca] 26)).cell? ⟨w.heap.size, 0, none⟩ = some (.int .i64 kd) := (World.cell?_alloc_lt _ _ _ (by rw [z2]; show w.heap.size < _; omega)).trans c2
  have r3 : RowB (Wc.alloc (.cells #[.slice (some ⟨b, off, none⟩) l.length ca] 26)) (w.heap.size + 1) (List.replicate l.length 0) := (rowB_own (w.heap.size + 1) (fun _ : Unit => List.replicate l.length 0)).alloc _ (s := ()) r2
  have d3 : (Wc.alloc (.cells #[.slice (some ⟨b, off, none⟩) l.length ca] 26)).cell? ⟨w.heap.size + 1 + 1, 0, none⟩ = some (.slice (some ⟨w.heap.size + 1, 0, none⟩) l.length l.length) := (World.cell?_alloc_lt _ _ _ (by rw [z2]; show w.heap.size + 1 + 1 < _; omega)).trans d2
  have e3 := cell_new Wc #[.slice (some ⟨b, off, none⟩) l.length ca] 26 0
  have z3 : (Wc.alloc (.cells #[.slice (some ⟨b, off, none⟩) l.length ca] 26)).heap.size = w.heap.size + 1 + 1 + 1 + 1 := by simp [z2]
  have b3 : Below w.heap.size w (Wc.alloc (.cells #[.slice (some ⟨b, off, none⟩) l.length ca] 26)) := b2.alloc (by omega) _
  rw [z2] at e3
  generalize Wc.alloc (.cells #[.slice (some ⟨b, off, none⟩) l.length ca] 26) = W0 at *
  clear c2 r2 z2 b2 d2 Wa Wb Wc
  refine wpIn_rangeFunc_ownH (α := GX B w l.length) (encs := fun x => encX x) rfl (by omega) (gf := 128) (lb := #[.pointer (some ⟨w.heap.size + 1 + 1 + 1, 0, none⟩)]) rfl trivial (enters_of Tryz.func128 (by kernel_rfl) rfl)
    (back_stops l (some ⟨b, off, none⟩) ca (100 - 1) (by omega) (w.heap.size + 1 + 1 + 1) w.heap.size f (fun k hk => (Hf.out k hk).1) hl W0 (by rintro a h -; cases h; exact Nat.lt_of_lt_of_le hbB hB) (by omega) (by omega) e3
      (fun _ => ⟨b, off, rfl, fun k hk => by
        have hb' : b < w.heap.size := Nat.lt_of_lt_of_le hbB hB
        obtain ⟨c0, c1, c2, c3, c4⟩ := Hcs.out k hk
        exact ⟨(b3.cell (p := ⟨b, _, none⟩) hb').trans c0, (b3.cell (p := ⟨b, _, none⟩) hb').trans c1, (b3.cell (p := ⟨b, _, none⟩) hb').trans c2, (b3.cell (p := ⟨b, _, none⟩) hb').trans c3, (b3.cell (p := ⟨b, _, none⟩) hb').trans c4⟩⟩))
    KpB.trans (kpB_b (by omega) (by omega)) (Below.refl _ _) (fun _ => rfl)
    (SubI B w kd l.length) (fun _ _ _ => False) (subI_own B w kd l.length _ (by omega)) (fun _ _ _ _ _ hs _ _ => hs) ⟨⟨c3, d3⟩, r3, b3, Nat.le_of_eq z3.symm⟩
    (fun x a' W => ∃ Bx, w.heap.size + 1 + 1 + 1 < Bx ∧ (W.cell? ⟨Bx, 0, none⟩ = some (.int .i64 x.1.nd.kind) ∧ W.cell? ⟨Bx, 4, none⟩ = some (.slice x.1.A x.1.nd.args.length x.1.ca)) ∧ a' = { tmps := #[.agg #[.int .i64 kd, X1, X2, X3, X4, X5, X6, .slice (some ⟨b, off, none⟩) l.length ca], .pointer (some ⟨w.heap.size, 0, none⟩), .slice none 0 0, .pointer (some ⟨w.heap.size + 1 + 1, 0, none⟩), .int .i64 (x.1.i : Int), .pointer (some ⟨Bx, 0, none⟩), undef, undef, .pointer (some ⟨w.heap.size, 7, none⟩), .slice (some ⟨b, off, none⟩) l.length ca, .int .i64 l.length, .slice (some ⟨w.heap.size + 1, 0, none⟩) l.length l.length, .pointer (some ⟨w.heap.size, 7, none⟩), .slice (some ⟨b, off, none⟩) l.length ca, .func (.func 128) #[] #[.pointer (some ⟨w.heap.size + 1 + 1 + 1, 0, none⟩)], .int .i64 (x.1.i : Int), .agg #[.int .i64 x.1.nd.kind, .int .i64 x.1.nd.lo, .int .i64 x.1.nd.hi, .string ⟨x.1.nd.text.toArray⟩, .slice x.1.A x.1.nd.args.length x.1.ca], undef, undef, undef, undef, undef, undef, undef, undef, undef, undef, undef, undef, undef, undef, undef, undef, undef, undef, undef, undef, undef, undef, undef, undef, undef, undef, undef, undef, undef, undef], defers := [] })
    (fun x a' _ X Y row hs hg hr => by obtain ⟨Bx, h1, ⟨h2, h3⟩, h4⟩ := hs; exact ⟨Bx, h1, ⟨cell_kept h2 hg (fun r e => (hr r e).2), cell_kept h3 hg (fun r e => (hr r e).2)⟩, h4⟩)
    ?assign ?body ?done ?stop
  case assign =>
    rintro lp pre x W K hI0 hK
    obtain ⟨⟨i1, i2⟩, i3, i4, i5⟩ := id hI0
    unfold encX
    have hsz := i4.size
    gi_wp2
    exact hK _ _ ((KeepsOthers.alloc _ _).from _) ⟨(Below.refl _ W).alloc hsz _, World.cell?_alloc_lt _ _ _ (by show w.heap.size + 1 + 1 + 1 < _; omega)⟩ ((subI_own B w kd l.length _ (Nat.le_refl _)).alloc _ hI0)
      ⟨W.heap.size, by omega, ⟨cell_new W _ _ 0, cell_new W _ _ 4⟩, rfl⟩
  case done =>
    rintro D zs W hD rfl ⟨⟨i1, i2⟩, i3, i4, i5⟩ hK
    have Hi := Lib.hid i3
    clear i3
    gi_wp2
    refine ⟨by simp, .inl ⟨_, _, rfl, run_takeDeferred hK, ?_⟩⟩
    refine ⟨_, results_tmp rfl _ _ _, ?_⟩
    refine ⟨(upF f l.length).map (·.1), by simp [upF_length], fun k x hx => ?_, rfl, i4.trans (belowK_b (w := w) (Nat.le_refl _) W D _ _ (by omega) hK rfl rfl), fun j x hx => ?_⟩
    · rw [List.getElem?_map, Option.map_eq_some_iff] at hx
      obtain ⟨y, hy, rfl⟩ := hx
      unfold upF at hy
      rw [List.getElem?_map, Option.map_eq_some_iff] at hy
      obtain ⟨i, hi, rfl⟩ := hy
      obtain ⟨h1, h2⟩ := List.getElem?_eq_some_iff.1 hi
      rw [List.getElem_range] at h2
      rw [List.length_range] at h1
      subst h2
      exact Hf.out _ h1
    · exact (World.cell?_of_block (World.putObj_heap_other (by show w.heap.size + 1 ≠ D; omega))).trans (Hi.out.1 j x hx)
  case stop =>
    rintro D c pre W _ _ h _
    exact h.elim
  case body =>
    rintro lp pre x a' W hlp - hI0 ⟨Bx, hBx, ⟨hn0, hn4⟩, rfl⟩ hlt
    obtain ⟨⟨i1, i2⟩, i3, i4, i5⟩ := hI0
    have hM : SubM w kd l.length (w.heap.size + 1 + 1 + 1 + 1) W Bx x.1.nd.kind x.1.A x.1.nd.args.length x.1.ca (subjAll kd l.length (pre.map (·.1))) W := ⟨i1, i2, i3, i4, i5, hn0, hn4, KeepsFrom.refl _ _, KpB.refl _ _ _⟩
    have hlen : (subjAll kd l.length (pre.map (·.1))).length = l.length := subjAll_length _ _ _
    have hgoal : ∀ W', SubM w kd l.length (w.heap.size + 1 + 1 + 1 + 1) W Bx x.1.nd.kind x.1.A x.1.nd.args.length x.1.ca (subjNode kd l.length (subjAll kd l.length (pre.map (·.1))) x.1) W' → KeepsFrom W0.heap.size W W' ∧ KpB w.heap.size (w.heap.size + 1 + 1 + 1) W W' ∧ SubI B w kd l.length (pre ++ [x]) W' := fun W' hm =>
      ⟨z3.symm ▸ hm.keeps, hm.kp, ⟨⟨hm.kind, hm.box⟩, by rw [List.map_append, List.map_cons, List.map_nil, subjAll_snoc]; exact hm.row, hm.below, hm.size⟩⟩
    have HG := Lib.hid hgoal
    clear hgoal i1 i2 i3 i4 i5 hn0 hn4
    generalize subjAll kd l.length (pre.map (·.1)) = s0 at *
    obtain ⟨hxi, hxr, hxa, hxl⟩ := x.2
    generalize hAx : x.1.A = xA at *
    clear hAx
    refine wpIn_block ?_
    refine wpIn_seq ?_
    refine wpIn_mono (Q := fun e a' W' => e = .normal ∧ (∃ v20 v21 v22 v23 v24 v25 v26 v27, a' = { tmps := #[.agg #[.int .i64 kd, X1, X2, X3, X4, X5, X6, .slice (some ⟨b, off, none⟩) l.length ca], .pointer (some ⟨w.heap.size, 0, none⟩), .slice none 0 0, .pointer (some ⟨w.heap.size + 1 + 1, 0, none⟩), .int .i64 (x.1.i : Int), .pointer (some ⟨Bx, 0, none⟩), undef, undef, .pointer (some ⟨w.heap.size, 7, none⟩), .slice (some ⟨b, off, none⟩) l.length ca, .int .i64 l.length, .slice (some ⟨w.heap.size + 1, 0, none⟩) l.length l.length, .pointer (some ⟨w.heap.size, 7, none⟩), .slice (some ⟨b, off, none⟩) l.length ca, .func (.func 128) #[] #[.pointer (some ⟨w.heap.size + 1 + 1 + 1, 0, none⟩)], .int .i64 (x.1.i : Int), .agg #[.int .i64 x.1.nd.kind, .int .i64 x.1.nd.lo, .int .i64 x.1.nd.hi, .string ⟨x.1.nd.text.toArray⟩, .slice xA x.1.nd.args.length x.1.ca], .int .i64 (x.1.i : Int), .slice (some ⟨w.heap.size + 1, 0, none⟩) l.length l.length, .int .i64 l.length, v20, v21, v22, v23, v24, v25, v26, v27, undef, undef, undef, undef, undef, undef, undef, undef, undef, undef, undef, undef, undef, undef, undef, undef, undef, undef, undef], defers := [] }) ∧ SubM w kd l.length (w.heap.size + 1 + 1 + 1 + 1) W Bx x.1.nd.kind xA x.1.nd.args.length x.1.ca (subjTop kd l.length x.1 s0) W') ?_ ?_
    · have HM := Lib.hid hM
      obtain ⟨m1, m2, ⟨m3, m4⟩, -, -, -, -, -, -⟩ := hM
      have hx0 : (x.1.i : Int) < l.length := by omega
      have hx1 : (0 : Int) ≤ x.1.i := by omega
      by_cases hi : x.1.i + 1 = l.length
      · have hi2 : (l.length : Int) - 1 = x.1.i := by omega
        have ht : SubM w kd l.length (w.heap.size + 1 + 1 + 1 + 1) W Bx x.1.nd.kind xA x.1.nd.args.length x.1.ca (subjTop kd l.length x.1 s0) (W.drew.setCell ⟨w.heap.size + 1, x.1.i, none⟩ (.int .i64 (subj kd))) := by
          unfold subjTop; rw [if_pos hi]; exact HM.out.set hBx _ _
        have HT := Lib.hid ht
        have hz : W.drew.frozen? ⟨w.heap.size + 1, x.1.i, none⟩ = false := m4 _ _ (List.getElem?_eq_getElem (by omega))
        have hcx : W.drew.cell? ⟨w.heap.size + 1, x.1.i, none⟩ = some (.int .i64 s0[x.1.i]) := m3 _ _ (List.getElem?_eq_getElem (by omega))
        clear ht m3 m4
        gi_wp2
        refine wpIn_mono (Q := fun e a' W' => e = .normal ∧ (∃ v20 v21 v22 v23 v24 v25 v26 v27, a' = { tmps := #[.agg #[.int .i64 kd, X1, X2, X3, X4, X5, X6, .slice (some ⟨b, off, none⟩) l.length ca], .pointer (some ⟨w.heap.size, 0, none⟩), .slice none 0 0, .pointer (some ⟨w.heap.size + 1 + 1, 0, none⟩), .int .i64 (x.1.i : Int), .pointer (some ⟨Bx, 0, none⟩), undef, undef, .pointer (some ⟨w.heap.size, 7, none⟩), .slice (some ⟨b, off, none⟩) l.length ca, .int .i64 l.length, .slice (some ⟨w.heap.size + 1, 0, none⟩) l.length l.length, .pointer (some ⟨w.heap.size, 7, none⟩), .slice (some ⟨b, off, none⟩) l.length ca, .func (.func 128) #[] #[.pointer (some ⟨w.heap.size + 1 + 1 + 1, 0, none⟩)], .int .i64 (x.1.i : Int), .agg #[.int .i64 x.1.nd.kind, .int .i64 x.1.nd.lo, .int .i64 x.1.nd.hi, .string ⟨x.1.nd.text.toArray⟩, .slice xA x.1.nd.args.length x.1.ca], .int .i64 (x.1.i : Int), .slice (some ⟨w.heap.size + 1, 0, none⟩) l.length l.length, .int .i64 l.length, v20, v21, v22, v23, v24, v25, v26, v27, undef, undef, undef, undef, undef, undef, undef, undef, undef, undef, undef, undef, undef, undef, undef, undef, undef, undef, undef], defers := [] }) ∧ SubM w kd l.length (w.heap.size + 1 + 1 + 1 + 1) W Bx x.1.nd.kind xA x.1.nd.args.length x.1.ca (subjTop kd l.length x.1 s0) W') ?_ ?_
        · have hSw : (fun w' : World => w'.cell? ⟨w.heap.size, 0, none⟩ = some (.int .i64 kd) ∧ w'.cell? ⟨w.heap.size + 1 + 1, 0, none⟩ = some (.slice (some ⟨w.heap.size + 1, 0, none⟩) l.length l.length)) W.drew := ⟨m1, m2⟩
          refine region_in (S := fun w' => w'.cell? ⟨w.heap.size, 0, none⟩ = some (.int .i64 kd) ∧ w'.cell? ⟨w.heap.size + 1 + 1, 0, none⟩ = some (.slice (some ⟨w.heap.size + 1, 0, none⟩) l.length l.length)) (by kernel_rfl) (by kernel_rfl) (by unfold LetsOut; simp) ?_
          refine wpAnyH_take (i := 0) (v := .slice (some ⟨w.heap.size + 1, 0, none⟩) l.length l.length) rfl (by kernel_rfl) (by kernel_rfl) (by kernel_rfl) (fun _ _ _ h => Exit.noConfusion h.1) (Or.inl ⟨by rfl, ?_⟩) (by assumption) ?_
          · intro w' hSw; go_split_ands; first | (go_simp; done) | (go_simp; with_reducible rfl)
          try simp only [Act.put, List.setIfInBounds_toArray]
          refine wpAnyH_take (i := 1) (v := .int .i64 (x.1.i : Int)) rfl (by kernel_rfl) (by kernel_rfl) (by kernel_rfl) (fun _ _ _ h => Exit.noConfusion h.1) (Or.inl ⟨by rfl, ?_⟩) (by assumption) ?_
          · intro w' hSw; go_split_ands; first | (go_simp; done) | (go_simp; with_reducible rfl)
          try simp only [Act.put]
          refine wpAnyH_take (i := 2) (v := .pointer (some ⟨w.heap.size, 0, none⟩)) rfl (by kernel_rfl) (by kernel_rfl) (by kernel_rfl) (fun _ _ _ h => Exit.noConfusion h.1) (Or.inl ⟨by rfl, ?_⟩) (by assumption) ?_
          · intro w' hSw; go_split_ands; first | (go_simp; done) | (go_simp; with_reducible rfl)
          try simp only [Act.put]
          refine wpAnyH_take (i := 3) (v := .int .i64 kd) rfl (by kernel_rfl) (by kernel_rfl) (by kernel_rfl) (fun _ _ _ h => Exit.noConfusion h.1) (Or.inl ⟨by rfl, ?_⟩) (by assumption) ?_
          · intro w' hSw; go_split_ands; first | (go_simp; done) | (go_simp; with_reducible rfl)
          try simp only [Act.put]
          refine wpAnyH_ready (rs := [4]) (by kernel_rfl) (by simp) ?_
          refine AllReadyH.cons rfl (fun K hK => ?_) AllReadyH.nil
          go_simp
          refine (subjectOf_any kd _).mono ?_
          rintro e w' ⟨rfl, rfl⟩
          go_wp2_with fail
          refine hK.out _ _ hSw (fun _ => ?_)
          clear hK K
          try simp only [Act.put, List.setIfInBounds_toArray, List.set_cons_zero, List.set_cons_succ]
          refine wpAnyH_take (i := 5) (v := .pointer (some ⟨w.heap.size + 1, x.1.i, none⟩)) rfl (by kernel_rfl) (by kernel_rfl) (by kernel_rfl) (fun _ _ _ h => Exit.noConfusion h.1) (Or.inl ⟨by rfl, ?_⟩) (by assumption) ?_
          · intro w' hSw; go_split_ands; first | (go_simp; done) | (go_simp; with_reducible rfl)
          try simp only [Act.put, List.setIfInBounds_toArray]

          refine wpAnyH_ready (rs := [6]) (by kernel_rfl) (by simp) ?_
          refine AllReadyH.cons rfl (fun K hK => ?_) AllReadyH.nil
          go_simp
          refine hK.out _ _ ⟨(World.cell?_setCell_other _ _ _ _ (by simp)).trans m1, (World.cell?_setCell_other _ _ _ _ (by simp)).trans m2⟩ (fun _ => ?_)
          clear hK K
          refine wpAnyH_done (by kernel_rfl) ?_ _
          exact ⟨rfl, ⟨_, _, _, _, _, _, _, _, rfl⟩, HT.out⟩
        · rintro e a1 W1 ⟨rfl, ⟨v20, v21, v22, v23, v24, v25, v26, v27, rfl⟩, hm1⟩
          have HM1 := Lib.hid hm1
          clear hm1
          gi_wp2
          exact HM1.out
      · have hi2 : ¬ (x.1.i : Int) = (l.length : Int) - 1 := by omega
        have ht : SubM w kd l.length (w.heap.size + 1 + 1 + 1 + 1) W Bx x.1.nd.kind xA x.1.nd.args.length x.1.ca (subjTop kd l.length x.1 s0) W := by
          unfold subjTop; rw [if_neg hi]; exact HM.out
        have HT := Lib.hid ht
        clear ht m3 m4
        gi_wp2
        exact HT.out
    · rintro e a1 W1 ⟨rfl, ⟨v20, v21, v22, v23, v24, v25, v26, v27, rfl⟩, hm1⟩
      have h4 := hm1.na
      have HM1 := Lib.hid hm1
      have hla : x.1.nd.args.length ≤ 281474976710656 := by omega
      clear hm1 hM c3 r3 d3 e3 b3
      gi_wp2
      gi_loopw [31] (fun i wr => ∃ m : Nat, m ≤ x.1.nd.args.length ∧ i = .int .i64 m ∧ SubM w kd l.length (w.heap.size + 1 + 1 + 1 + 1) W Bx x.1.nd.kind xA x.1.nd.args.length x.1.ca ((x.1.nd.args.take m).foldl (subjArg x.1) (subjTop kd l.length x.1 s0)) wr) (fun i _ => (x.1.nd.args.length - intOf i).toNat)
      case atStart => exact ⟨0, Nat.zero_le _, rfl, HM1.out⟩
      case round =>
        obtain ⟨m, hm, rfl, hmr⟩ := hrel
        by_cases hlm : m < x.1.nd.args.length
        · obtain ⟨a, ha⟩ : ∃ a, x.1.nd.args[m]? = some a := ⟨_, List.getElem?_eq_getElem hlm⟩
          obtain ⟨ha0, ha1⟩ := hxa a (List.mem_of_getElem? ha)
          obtain ⟨aN, rfl⟩ : ∃ aN : Nat, a = (aN : Int) := ⟨a.toNat, by omega⟩
          have hfold : (x.1.nd.args.take (m + 1)).foldl (subjArg x.1) (subjTop kd l.length x.1 s0) = subjArg x.1 ((x.1.nd.args.take m).foldl (subjArg x.1) (subjTop kd l.length x.1 s0)) aN := by
            rw [List.take_add_one, ha, List.foldl_append]; rfl
          have hGl : ((x.1.nd.args.take m).foldl (subjArg x.1) (subjTop kd l.length x.1 s0)).length = l.length := by rw [foldl_length (subjArg_length x.1), subjTop_length, hlen]
          generalize (x.1.nd.args.take m).foldl (subjArg x.1) (subjTop kd l.length x.1 s0) = G at *
          change _ = G.set (aN : Int).toNat (operSubj x.1.nd.kind (G.getD x.1.i 0)) at hfold
          obtain ⟨v, hv⟩ : ∃ v, G[x.1.i]? = some v := ⟨_, List.getElem?_eq_getElem (by omega)⟩
          have hvd : G.getD x.1.i 0 = v := by rw [List.getD_eq_getElem?_getD, hv]; rfl
          rw [hvd, Int.toNat_natCast] at hfold
          have hset := Lib.hid (hmr.set hBx aN (operSubj x.1.nd.kind v))
          obtain ⟨-, m2, ⟨m3, m4⟩, mb, -, mk, -, -, -⟩ := hmr
          rcases hxr.args with h0 | ⟨ab, ao, hA, hab, hac⟩
          · rw [h0] at hlm; simp at hlm
          subst hA
          have hca := (mb.cell (p := ⟨ab, ao + m, none⟩) (Nat.lt_of_lt_of_le hab hB)).trans (hac m _ ha)
          have hlm' : (m : Int) < x.1.nd.args.length := by omega
          have hm0 : (0 : Int) ≤ m := by omega
          have hx0 : (x.1.i : Int) < l.length := by omega
          have hx1 : (0 : Int) ≤ x.1.i := by omega
          have ha2 : (aN : Int) < l.length := by omega
          have hz : wr.drew.frozen? ⟨w.heap.size + 1, aN, none⟩ = false := m4 _ _ (List.getElem?_eq_getElem (by omega))
          have hcx : wr.drew.cell? ⟨w.heap.size + 1, aN, none⟩ = some (.int .i64 G[aN]) := m3 _ _ (List.getElem?_eq_getElem (by omega))
          have hnx : aN ≠ x.1.i := by omega
          have mi := m3 _ _ hv
          have HF := Lib.hid hfold
          clear m3 m4 hac hfold mb
          gi_wp2
          refine wpIn_mono (Q := fun e a' W' => e = .normal ∧ (∃ v45 v35 v36 v37 v38 v39 v40 v41 v42 v43 v44, a' = { tmps := #[.agg #[.int .i64 kd, X1, X2, X3, X4, X5, X6, .slice (some ⟨b, off, none⟩) l.length ca], .pointer (some ⟨w.heap.size, 0, none⟩), .slice none 0 0, .pointer (some ⟨w.heap.size + 1 + 1, 0, none⟩), .int .i64 (x.1.i : Int), .pointer (some ⟨Bx, 0, none⟩), undef, .int .i64 (aN : Int), .pointer (some ⟨w.heap.size, 7, none⟩), .slice (some ⟨b, off, none⟩) l.length ca, .int .i64 l.length, .slice (some ⟨w.heap.size + 1, 0, none⟩) l.length l.length, .pointer (some ⟨w.heap.size, 7, none⟩), .slice (some ⟨b, off, none⟩) l.length ca, .func (.func 128) #[] #[.pointer (some ⟨w.heap.size + 1 + 1 + 1, 0, none⟩)], .int .i64 (x.1.i : Int), .agg #[.int .i64 x.1.nd.kind, .int .i64 x.1.nd.lo, .int .i64 x.1.nd.hi, .string ⟨x.1.nd.text.toArray⟩, .slice (some ⟨ab, ao, none⟩) x.1.nd.args.length x.1.ca], .int .i64 (x.1.i : Int), .slice (some ⟨w.heap.size + 1, 0, none⟩) l.length l.length, .int .i64 l.length, v20, v21, v22, v23, v24, v25, v26, v27, .pointer (some ⟨Bx, 4, none⟩), .slice (some ⟨ab, ao, none⟩) x.1.nd.args.length x.1.ca, .int .i64 x.1.nd.args.length, .int .i64 (m : Int), .bool true, .pointer (some ⟨ab, ao + m, none⟩), .int .i64 (aN : Int), v35, v36, v37, v38, v39, v40, v41, v42, v43, v44, v45, undef], defers := [] }) ∧ W' = wr.drew.setCell ⟨w.heap.size + 1, aN, none⟩ (.int .i64 (operSubj x.1.nd.kind v))) ?_ ?_
          · have hSw : (fun w' : World => w'.cell? ⟨w.heap.size + 1 + 1, 0, none⟩ = some (.slice (some ⟨w.heap.size + 1, 0, none⟩) l.length l.length) ∧ w'.cell? ⟨Bx, 0, none⟩ = some (.int .i64 x.1.nd.kind) ∧ w'.cell? ⟨w.heap.size + 1, x.1.i, none⟩ = some (.int .i64 v)) wr.drew := ⟨m2, mk, mi⟩
            refine region_in (S := fun w' : World => w'.cell? ⟨w.heap.size + 1 + 1, 0, none⟩ = some (.slice (some ⟨w.heap.size + 1, 0, none⟩) l.length l.length) ∧ w'.cell? ⟨Bx, 0, none⟩ = some (.int .i64 x.1.nd.kind) ∧ w'.cell? ⟨w.heap.size + 1, x.1.i, none⟩ = some (.int .i64 v)) (by kernel_rfl) (by kernel_rfl) (by unfold LetsOut; simp) ?_
            refine wpAnyH_take (i := 0) (v := .slice (some ⟨w.heap.size + 1, 0, none⟩) l.length l.length) rfl (by kernel_rfl) (by kernel_rfl) (by kernel_rfl) (fun _ _ _ h => Exit.noConfusion h.1) (Or.inl ⟨by rfl, ?_⟩) (by assumption) ?_
            · intro w' hSw; go_split_ands; first | (go_simp; done) | (go_simp; with_reducible rfl)
            try simp only [Act.put, List.setIfInBounds_toArray]
            refine wpAnyH_take (i := 1) (v := .int .i64 (aN : Int)) rfl (by kernel_rfl) (by kernel_rfl) (by kernel_rfl) (fun _ _ _ h => Exit.noConfusion h.1) (Or.inl ⟨by rfl, ?_⟩) (by assumption) ?_
            · intro w' hSw; go_split_ands; first | (go_simp; done) | (go_simp; with_reducible rfl)
            try simp only [Act.put]
            refine wpAnyH_take (i := 2) (v := .pointer (some ⟨Bx, 0, none⟩)) rfl (by kernel_rfl) (by kernel_rfl) (by kernel_rfl) (fun _ _ _ h => Exit.noConfusion h.1) (Or.inl ⟨by rfl, ?_⟩) (by assumption) ?_
            · intro w' hSw; go_split_ands; first | (go_simp; done) | (go_simp; with_reducible rfl)
            try simp only [Act.put]
            refine wpAnyH_take (i := 3) (v := .int .i64 x.1.nd.kind) rfl (by kernel_rfl) (by kernel_rfl) (by kernel_rfl) (fun _ _ _ h => Exit.noConfusion h.1) (Or.inl ⟨by rfl, ?_⟩) (by assumption) ?_
            · intro w' hSw; go_split_ands; first | (go_simp; done) | (go_simp; with_reducible rfl)
            try simp only [Act.put]
            refine wpAnyH_take (i := 4) (v := .slice (some ⟨w.heap.size + 1, 0, none⟩) l.length l.length) rfl (by kernel_rfl) (by kernel_rfl) (by kernel_rfl) (fun _ _ _ h => Exit.noConfusion h.1) (Or.inl ⟨by rfl, ?_⟩) (by assumption) ?_
            · intro w' hSw; go_split_ands; first | (go_simp; done) | (go_simp; with_reducible rfl)
            try simp only [Act.put]
            refine wpAnyH_take (i := 5) (v := .int .i64 (x.1.i : Int)) rfl (by kernel_rfl) (by kernel_rfl) (by kernel_rfl) (fun _ _ _ h => Exit.noConfusion h.1) (Or.inl ⟨by rfl, ?_⟩) (by assumption) ?_
            · intro w' hSw; go_split_ands; first | (go_simp; done) | (go_simp; with_reducible rfl)
            try simp only [Act.put]
            refine wpAnyH_take (i := 6) (v := .pointer (some ⟨w.heap.size + 1, x.1.i, none⟩)) rfl (by kernel_rfl) (by kernel_rfl) (by kernel_rfl) (fun _ _ _ h => Exit.noConfusion h.1) (Or.inl ⟨by rfl, ?_⟩) (by assumption) ?_
            · intro w' hSw; go_split_ands; first | (go_simp; done) | (go_simp; with_reducible rfl)
            try simp only [Act.put]
            refine wpAnyH_take (i := 7) (v := .int .i64 v) rfl (by kernel_rfl) (by kernel_rfl) (by kernel_rfl) (fun _ _ _ h => Exit.noConfusion h.1) (Or.inl ⟨by rfl, ?_⟩) (by assumption) ?_
            · intro w' hSw; go_split_ands; first | (go_simp; done) | (go_simp; with_reducible rfl)
            try simp only [Act.put]
            refine wpAnyH_ready (rs := [8]) (by kernel_rfl) (by simp) ?_
            refine AllReadyH.cons rfl (fun K hK => ?_) AllReadyH.nil
            go_simp
            refine (operandSubject_any x.1.nd.kind v _).mono ?_
            rintro e w' ⟨rfl, rfl⟩
            go_wp2_with fail
            refine hK.out _ _ hSw (fun _ => ?_)
            clear hK K
            try simp only [Act.put, List.setIfInBounds_toArray, List.set_cons_zero, List.set_cons_succ]
            refine wpAnyH_take (i := 9) (v := .pointer (some ⟨w.heap.size + 1, aN, none⟩)) rfl (by kernel_rfl) (by kernel_rfl) (by kernel_rfl) (fun _ _ _ h => Exit.noConfusion h.1) (Or.inl ⟨by rfl, ?_⟩) (by assumption) ?_
            · intro w' hSw; go_split_ands; first | (go_simp; done) | (go_simp; with_reducible rfl)
            try simp only [Act.put, List.setIfInBounds_toArray]

            refine wpAnyH_ready (rs := [10]) (by kernel_rfl) (by simp) ?_
            refine AllReadyH.cons rfl (fun K hK => ?_) AllReadyH.nil
            go_simp
            refine hK.out _ _ ⟨(World.cell?_setCell_other _ _ _ _ (by simp)).trans m2, (World.cell?_setCell_other _ _ _ _ (by intro e1; cases e1; omega)).trans mk, (World.cell?_setCell_other _ _ _ _ (by intro e1; cases e1; omega)).trans mi⟩ (fun _ => ?_)
            clear hK K
            refine wpAnyH_done (by kernel_rfl) ?_ _
            exact ⟨rfl, ⟨_, _, _, _, _, _, _, _, _, _, _, rfl⟩, rfl⟩
          · rintro e a1 W2 ⟨rfl, ⟨v45, v35, v36, v37, v38, v39, v40, v41, v42, v43, v44, rfl⟩, rfl⟩
            gi_wp2
            go_roundw
            case rel => exact ⟨m + 1, by omega, by simp, by rw [HF.out]; exact hset.out⟩
            case measure => simp [intOf] <;> omega
        · have hme : m = x.1.nd.args.length := by omega
          subst hme
          rw [List.take_length] at hmr
          have hfin := Lib.hid (HG.out _ hmr)
          clear hmr
          gi_wp2
          exact hfin.out
end Go.Proofs.YtgdedcdjfljcnaaGreatDoor
namespace Go.Proofs.YtgdedcdjfljcnaaGreatDoor
open Go.RowKit

theorem bounds_num (k : Int) (w : World) : Calls Tryz.prog 99 #[.int .i64 k, .int .i64 1] w fun e w' => e = .returned (.agg #[.int .i64 (-1152921504606846976), .int .i64 1152921504606846976]) ∧ Fr w.heap.size w w' := by
  have hf := (Fr.self w).alloc (.cells #[.int .i64 0, .int .i64 0] 55)
  have Hw := Lib.hid (wholeNumbers_any (w.alloc (.cells #[.int .i64 0, .int .i64 0] 55)))
  have c0 := cell_new w #[.int .i64 0, .int .i64 0] 55 0
  have c1 := cell_new w #[.int .i64 0, .int .i64 0] 55 1
  have z0 := frozen_new w #[.int .i64 0, .int .i64 0] 55 0
  have z1 := frozen_new w #[.int .i64 0, .int .i64 0] 55 1
  go_enter Tryz.func99, Tryz.ntmps99
  go_wp2_with fail
  refine (Hw.out).mono ?_
  rintro e w1 ⟨rfl, hf1⟩
  replace c0 := (hf1.cell (p := ⟨w.heap.size, 0, none⟩) (by simp)).trans c0
  replace c1 := (hf1.cell (p := ⟨w.heap.size, 1, none⟩) (by simp)).trans c1
  replace z0 := (hf1.frozen (p := ⟨w.heap.size, 0, none⟩) (by simp)).trans z0
  replace z1 := (hf1.frozen (p := ⟨w.heap.size, 1, none⟩) (by simp)).trans z1
  have hfw : Fr w.heap.size w w1 := hf.trans hf1
  clear hf hf1
  go_wp2_with fail
  exact bodyPost_ret (v := .agg #[.int .i64 (-1152921504606846976), .int .i64 1152921504606846976]) (by simp [results, Tryz.results99, go_sem, *]) rfl ⟨rfl, (hfw.setCell (Nat.le_refl _) _).setCell (Nat.le_refl _) _⟩

set_option maxRecDepth 100000 in
set_option maxHeartbeats 2000000 in
/-- A range of whole numbers may stand in a constraint of them. -/
theorem nodeError_range (X1 X2 X3 X4 X5 X6 : Value) (b off n ca i : Nat) (lo hi : Int) (A : Option Addr) (na cn : Nat) (w : World) (hi0 : i < n) (hb : b < w.heap.size) (hlo : -1152921504606846976 ≤ lo) (hlh : lo ≤ hi) (hhi : hi ≤ 1152921504606846976)
    (c0 : w.cell? ⟨b, off + i * 5, none⟩ = some (.int .i64 0)) (c1 : w.cell? ⟨b, off + i * 5 + 1, none⟩ = some (.int .i64 lo)) (c2 : w.cell? ⟨b, off + i * 5 + 2, none⟩ = some (.int .i64 hi)) (c3 : w.cell? ⟨b, off + i * 5 + 3, none⟩ = some (.string ⟨#[]⟩)) (c4 : w.cell? ⟨b, off + i * 5 + 4, none⟩ = some (.slice A na cn)) (_hn : n ≤ 1000) :
    Calls Tryz.prog 74 #[.agg #[.int .i64 2, X1, X2, X3, X4, X5, X6, .slice (some ⟨b, off, none⟩) n ca], .int .i64 i, .int .i64 1] w fun e w' => e = .returned (.int .i64 0) ∧ Fr w.heap.size w w' := by
  have hf := ((Fr.self w).alloc (.cells #[.int .i64 2, X1, X2, X3, X4, X5, X6, .slice (some ⟨b, off, none⟩) n ca] 28)).alloc (.cells #[.int .i64 0, .int .i64 lo, .int .i64 hi, .string ⟨#[]⟩, .slice A na cn] 66)
  have Hsp := Lib.hid (spanOf_any 0 lo hi ⟨#[]⟩ A na cn)
  have Hbd := Lib.hid (bounds_num 2)
  have Hw := Lib.hid (iw_any lo hi (-1152921504606846976) 1152921504606846976 true (decide_eq_true ⟨hlh, hlo, hhi⟩))
  have hst : standB 0 1 = true := rfl
  have Hms := Lib.hid (fun w => hst ▸ mayStand_any 0 1 w)
  have hi1 : (0 : Int) ≤ i := by omega
  have hi2 : (i : Int) < n := by omega
  clear hlo hhi hlh hst
  go_enter Tryz.func74, Tryz.ntmps74
  go_wp2_with fail
  refine (Hms.out _).mono ?_
  rintro e w' ⟨rfl, rfl⟩
  go_wp2_with fail
  have q0 : ((w.alloc (.cells #[.int .i64 2, X1, X2, X3, X4, X5, X6, .slice (some ⟨b, off, none⟩) n ca] 28)).alloc (.cells #[.int .i64 0, .int .i64 lo, .int .i64 hi, .string ⟨#[]⟩, .slice A na cn] 66)).cell? ⟨w.heap.size, 0, none⟩ = some (.int .i64 2) := (World.cell?_alloc_lt _ _ _ (by simp)).trans (cell_new w _ _ 0)
  have hq : ∀ k, ((w.alloc (.cells #[.int .i64 2, X1, X2, X3, X4, X5, X6, .slice (some ⟨b, off, none⟩) n ca] 28)).alloc (.cells #[.int .i64 0, .int .i64 lo, .int .i64 hi, .string ⟨#[]⟩, .slice A na cn] 66)).cell? ⟨w.heap.size + 1, k, none⟩ = #[.int .i64 0, .int .i64 lo, .int .i64 hi, .string ⟨#[]⟩, .slice A na cn][k]? := fun k => by
    have := cell_new (w.alloc (.cells #[.int .i64 2, X1, X2, X3, X4, X5, X6, .slice (some ⟨b, off, none⟩) n ca] 28)) #[.int .i64 0, .int .i64 lo, .int .i64 hi, .string ⟨#[]⟩, .slice A na cn] 66 k
    rwa [World.size_alloc] at this
  have hqz : w.heap.size + 1 < ((w.alloc (.cells #[.int .i64 2, X1, X2, X3, X4, X5, X6, .slice (some ⟨b, off, none⟩) n ca] 28)).alloc (.cells #[.int .i64 0, .int .i64 lo, .int .i64 hi, .string ⟨#[]⟩, .slice A na cn] 66)).heap.size := by simp
  generalize (w.alloc (.cells #[.int .i64 2, X1, X2, X3, X4, X5, X6, .slice (some ⟨b, off, none⟩) n ca] 28)).alloc (.cells #[.int .i64 0, .int .i64 lo, .int .i64 hi, .string ⟨#[]⟩, .slice A na cn] 66) = W at *
  have q1 := hq 0; have q2 := hq 1; have q3 := hq 2; have q4 := hq 3; have q5 := hq 4
  clear hq c0 c1 c2 c3 c4
  go_region_held3 (fun w' => Fr w.heap.size w w' ∧ w.heap.size + 1 < w'.heap.size ∧ w'.cell? ⟨w.heap.size, 0, none⟩ = some (.int .i64 2) ∧ w'.cell? ⟨w.heap.size + 1, 0, none⟩ = some (.int .i64 0) ∧ w'.cell? ⟨w.heap.size + 1, 1, none⟩ = some (.int .i64 lo) ∧ w'.cell? ⟨w.heap.size + 1, 2, none⟩ = some (.int .i64 hi) ∧ w'.cell? ⟨w.heap.size + 1, 3, none⟩ = some (.string ⟨#[]⟩) ∧ w'.cell? ⟨w.heap.size + 1, 4, none⟩ = some (.slice A na cn))
    (first
      | (go_split_ands; exact ⟨Fr.trans (by assumption) hf5, Nat.lt_of_lt_of_le (by assumption) hf5.2.size, (hf5.cell (p := ⟨w.heap.size, 0, none⟩) (by first | assumption | exact Nat.lt_of_succ_lt (by assumption))).trans (by assumption), (hf5.cell (p := ⟨w.heap.size + 1, 0, none⟩) (by first | assumption | exact Nat.lt_of_succ_lt (by assumption))).trans (by assumption), (hf5.cell (p := ⟨w.heap.size + 1, 1, none⟩) (by first | assumption | exact Nat.lt_of_succ_lt (by assumption))).trans (by assumption), (hf5.cell (p := ⟨w.heap.size + 1, 2, none⟩) (by first | assumption | exact Nat.lt_of_succ_lt (by assumption))).trans (by assumption), (hf5.cell (p := ⟨w.heap.size + 1, 3, none⟩) (by first | assumption | exact Nat.lt_of_succ_lt (by assumption))).trans (by assumption), (hf5.cell (p := ⟨w.heap.size + 1, 4, none⟩) (by first | assumption | exact Nat.lt_of_succ_lt (by assumption))).trans (by assumption)⟩)
      | (go_split_ands; exact ⟨Fr.trans (by assumption) hf6, Nat.lt_of_lt_of_le (by assumption) hf6.2.size, (hf6.cell (p := ⟨w.heap.size, 0, none⟩) (by first | assumption | exact Nat.lt_of_succ_lt (by assumption))).trans (by assumption), (hf6.cell (p := ⟨w.heap.size + 1, 0, none⟩) (by first | assumption | exact Nat.lt_of_succ_lt (by assumption))).trans (by assumption), (hf6.cell (p := ⟨w.heap.size + 1, 1, none⟩) (by first | assumption | exact Nat.lt_of_succ_lt (by assumption))).trans (by assumption), (hf6.cell (p := ⟨w.heap.size + 1, 2, none⟩) (by first | assumption | exact Nat.lt_of_succ_lt (by assumption))).trans (by assumption), (hf6.cell (p := ⟨w.heap.size + 1, 3, none⟩) (by first | assumption | exact Nat.lt_of_succ_lt (by assumption))).trans (by assumption), (hf6.cell (p := ⟨w.heap.size + 1, 4, none⟩) (by first | assumption | exact Nat.lt_of_succ_lt (by assumption))).trans (by assumption)⟩)
      | (go_split_ands; exact ⟨Fr.trans (by assumption) hf7, Nat.lt_of_lt_of_le (by assumption) hf7.2.size, (hf7.cell (p := ⟨w.heap.size, 0, none⟩) (by first | assumption | exact Nat.lt_of_succ_lt (by assumption))).trans (by assumption), (hf7.cell (p := ⟨w.heap.size + 1, 0, none⟩) (by first | assumption | exact Nat.lt_of_succ_lt (by assumption))).trans (by assumption), (hf7.cell (p := ⟨w.heap.size + 1, 1, none⟩) (by first | assumption | exact Nat.lt_of_succ_lt (by assumption))).trans (by assumption), (hf7.cell (p := ⟨w.heap.size + 1, 2, none⟩) (by first | assumption | exact Nat.lt_of_succ_lt (by assumption))).trans (by assumption), (hf7.cell (p := ⟨w.heap.size + 1, 3, none⟩) (by first | assumption | exact Nat.lt_of_succ_lt (by assumption))).trans (by assumption), (hf7.cell (p := ⟨w.heap.size + 1, 4, none⟩) (by first | assumption | exact Nat.lt_of_succ_lt (by assumption))).trans (by assumption)⟩)
      | (go_split_ands; exact ⟨hf.drew, hqz, q0, q1, q2, q3, q4, q5⟩)
      | go_keep)
    (first
      | (go_at_call 75; refine (Hsp.out _).mono ?_; rintro e w5 ⟨rfl, hf5⟩)
      | (go_at_call 99; refine (Hbd.out _).mono ?_; rintro e w6 ⟨rfl, hf6⟩)
      | (go_at_call 57; refine (Hw.out _).mono ?_; rintro e w7 ⟨rfl, hf7⟩))
  all_goals
    rename_i hHeld
    obtain ⟨hF, p0, p1, p2, p3, p4, p5, p6⟩ := hHeld
    clear hf q0 q1 q2 q3 q4 q5 hqz hf5 hf6 hf7
    go_wp2_with fail
    go_ret
    exact ⟨rfl, hF⟩

set_option maxRecDepth 100000 in
set_option maxHeartbeats 2000000 in
/-- A marker may stand at the end of a constraint of whole numbers. -/
theorem nodeError_marker (X1 X2 X3 X4 X5 X6 : Value) (b off n ca i : Nat) (A : Option Addr) (na cn : Nat) (w : World) (hi0 : i + 1 = n) (hb : b < w.heap.size)
    (c0 : w.cell? ⟨b, off + i * 5, none⟩ = some (.int .i64 7)) (c1 : w.cell? ⟨b, off + i * 5 + 1, none⟩ = some (.int .i64 0)) (c2 : w.cell? ⟨b, off + i * 5 + 2, none⟩ = some (.int .i64 0)) (c3 : w.cell? ⟨b, off + i * 5 + 3, none⟩ = some (.string ⟨#[]⟩)) (c4 : w.cell? ⟨b, off + i * 5 + 4, none⟩ = some (.slice A na cn)) (hn : n ≤ 1000) :
    Calls Tryz.prog 74 #[.agg #[.int .i64 2, X1, X2, X3, X4, X5, X6, .slice (some ⟨b, off, none⟩) n ca], .int .i64 i, .int .i64 1] w fun e w' => e = .returned (.int .i64 0) ∧ Fr w.heap.size w w' := by
  have hf := ((Fr.self w).alloc (.cells #[.int .i64 2, X1, X2, X3, X4, X5, X6, .slice (some ⟨b, off, none⟩) n ca] 28)).alloc (.cells #[.int .i64 7, .int .i64 0, .int .i64 0, .string ⟨#[]⟩, .slice A na cn] 66)
  have hst : standB 7 1 = true := rfl
  have Hms := Lib.hid (fun w => hst ▸ mayStand_any 7 1 w)
  have hi1 : (0 : Int) ≤ i := by omega
  have hi2 : (i : Int) < n := by omega
  have hi3 : (n : Int) - 1 = i := by omega
  clear hst
  go_enter Tryz.func74, Tryz.ntmps74
  go_wp2_with fail
  refine (Hms.out _).mono ?_
  rintro e w' ⟨rfl, rfl⟩
  go_wp2_with fail
  have hq : ∀ k, ((w.alloc (.cells #[.int .i64 2, X1, X2, X3, X4, X5, X6, .slice (some ⟨b, off, none⟩) n ca] 28)).alloc (.cells #[.int .i64 7, .int .i64 0, .int .i64 0, .string ⟨#[]⟩, .slice A na cn] 66)).cell? ⟨w.heap.size + 1, k, none⟩ = #[.int .i64 7, .int .i64 0, .int .i64 0, .string ⟨#[]⟩, .slice A na cn][k]? := fun k => by
    have := cell_new (w.alloc (.cells #[.int .i64 2, X1, X2, X3, X4, X5, X6, .slice (some ⟨b, off, none⟩) n ca] 28)) #[.int .i64 7, .int .i64 0, .int .i64 0, .string ⟨#[]⟩, .slice A na cn] 66 k
    rwa [World.size_alloc] at this
  generalize (w.alloc (.cells #[.int .i64 2, X1, X2, X3, X4, X5, X6, .slice (some ⟨b, off, none⟩) n ca] 28)).alloc (.cells #[.int .i64 7, .int .i64 0, .int .i64 0, .string ⟨#[]⟩, .slice A na cn] 66) = W at *
  have q1 := hq 0; have q4 := hq 3
  clear hq c0 c1 c2 c3 c4
  go_quiet (fail)
  go_wp2_with fail
  go_ret
  exact ⟨rfl, hf.drewN _⟩
end Go.Proofs.YtgdedcdjfljcnaaGreatDoor
