/- The contract on OwnValue: the same tree, in memory of its own. -/
import Derived.Test.YtgdedcdjfljcnaaGreatDoorM38
import Derived.Deep.RegionWith
import Derived.Lib.SmallJoins
namespace Go.Proofs.YtgdedcdjfljcnaaGreatDoor
open Go.RowKit

theorem ValsS.form {S : Nat → Prop} {w : World} {v : Value} {xs : List VT} (h : ValsS S w v xs) : ∃ D cb, v = .slice D xs.length cb := by
  obtain ⟨D, cb, rfl, -⟩ := h; exact ⟨D, cb, rfl⟩
theorem frozen_row {w : World} {g : Nat} {cs : Array Value} {t : TypeId} (h : w.heap[g]? = some (.cells cs t (0, 0))) (i : Nat) : w.frozen? ⟨g, i, none⟩ = false := by simp [World.frozen?, h]
theorem blk_set {w : World} {g : Nat} {cs : Array Value} {t : TypeId} {fr : Nat × Nat} (h : w.heap[g]? = some (.cells cs t fr)) (i : Nat) (v : Value) : (w.setCell ⟨g, i, none⟩ v).heap[g]? = some (.cells (cs.setIfInBounds i v) t fr) := by
  simp [World.setCell, Array.getElem?_modify, h]
theorem blk_far {w : World} {g b : Nat} {o : Obj} (h : w.heap[b]? = some o) (i : Nat) (v : Value) (hne : b ≠ g) : (w.setCell ⟨g, i, none⟩ v).heap[b]? = some o := (Below.heap_setCell _ _ _ _ hne).trans h
/-- What a function that hands a value back returns. -/
theorem val_res {fn : Func} {p : Tmp} (h : fn.results = #[.cell p 44]) {tmps : Array Value} {W : World} {g : Nat} {a b c d e f : Value} (hp : tmps.getD p undef = .pointer (some ⟨g, 0, none⟩))
    (hg : W.heap[g]? = some (.cells #[a, b, c, d, e, f] 44 (0, 0))) : (results fn tmps).run Tryz.prog W = .ok (.agg #[a, b, c, d, e, f]) W :=
  results_cell_row h tmps W g _ _ (0, 0) _ hp hg Tryz.underlying44 rfl (by kernel_rfl)
theorem repS_of {S : Nat → Prop} {w : World} {k n e : Int} {s : List UInt8} {names : List (List UInt8)} {items : List VT} {A D : Option Addr} {ca cb : Nat} (hk : InI k) (hn : InI n) (he : InI e) (hs : s.length ≤ maxLen) (hA0 : A = none → ca = 0) (hAc : names.length ≤ ca)
    (hA : NamesS S w A names) (hx : ∀ x ∈ names, x.length ≤ maxLen) (hln : names.length ≤ maxLen) (hV : ValsS S w (.slice D items.length cb) items) :
    RepS S w (.mk k n e s names items) [.int .i64 k, .int .i64 n, .int .i64 e, .string ⟨s.toArray⟩, .slice A names.length ca, .slice D items.length cb] := by
  obtain ⟨D', cb', hv, hd, hdc, hl, C, hc, hr⟩ := hV
  injection hv with e1 _ e3
  subst e1; subst e3
  exact .mk k n e s names items A ca D cb C hA0 hd hAc hdc hk hn he hs hA hx hln hl hc hr
theorem slim_parts {k n e : Int} {s : List UInt8} {names : List (List UInt8)} {items : List VT} (h : slimV (.mk k n e s names items) = true) : s.length ≤ 500 ∧ names.length ≤ 60 ∧ items.length ≤ 60 ∧ (∀ x ∈ names, x.length ≤ 60) ∧ ∀ y ∈ items, slimV y = true := by
  rw [slimV, Bool.and_eq_true, Bool.and_eq_true, Bool.and_eq_true, Bool.and_eq_true, slimL_all] at h
  refine ⟨of_decide_eq_true h.1, of_decide_eq_true h.2.1, of_decide_eq_true h.2.2.1, fun x hx => of_decide_eq_true (List.all_eq_true.1 h.2.2.2.1 x hx), fun y hy => List.all_eq_true.1 h.2.2.2.2 y hy⟩

set_option maxRecDepth 100000 in
set_option maxHeartbeats 4000000 in
theorem ownValue_any : ∀ x : VT, slimV x = true → OwnC x := by
  intro x
  induction x using VT.ind with
  | h k n e s names items ih =>
    intro hslim B w cs hrep hB
    obtain ⟨-, hnl, hil, -, hsl⟩ := slim_parts hslim
    have hC : ∀ y ∈ items, OwnC y := fun y hy => ih y hy (hsl y hy)
    cases hrep with
    | mk _ _ _ _ _ _ A ca D cb C hA0 hD0 hAc hDc hk hn he hs hA hx hln hli hi hr =>
    have Hva : Hid (ValsAt B w (.slice D items.length cb) items) := ⟨D, cb, rfl, hD0, hDc, hli, C, hi, hr⟩
    have HA := Lib.hid hA
    have Hot := Lib.hid (fun w1 (hf1 : Fr w.heap.size w w1) => ownTexts_any names A ca w1 hA0 (NamesAt.below hA (hf1.2.mono hB)) (by omega))
    have Hov := Lib.hid (fun w1 (hf1 : Fr w.heap.size w w1) => ownValues_any items hC (by omega) B w1 _ (ValsAt.keep (hf1.2.mono hB) Hva.out) (Nat.le_trans hB hf1.le))
    have hf := Fr.self w
    clear hC ih hsl hslim hA hi hr
    go_enter Tryz.func48, Tryz.ntmps48
    go_wp2_with fail
    have hN : (w.alloc (.cells #[.int .i64 k, .int .i64 n, .int .i64 e, .string ⟨s.toArray⟩, .slice A names.length ca, .slice D items.length cb] 44)).heap[w.heap.size]? = _ := heap_alloc_new w _
    have hN0 := (Below.heap_alloc (w.alloc (.cells #[.int .i64 k, .int .i64 n, .int .i64 e, .string ⟨s.toArray⟩, .slice A names.length ca, .slice D items.length cb] 44)) (.cells #[.int .i64 0, .int .i64 0, .int .i64 0, .string ⟨#[]⟩, .slice none 0 0, .slice none 0 0] 44) w.heap.size (by simp)).trans hN
    have hN1 := heap_alloc_new (w.alloc (.cells #[.int .i64 k, .int .i64 n, .int .i64 e, .string ⟨s.toArray⟩, .slice A names.length ca, .slice D items.length cb] 44)) (.cells #[.int .i64 0, .int .i64 0, .int .i64 0, .string ⟨#[]⟩, .slice none 0 0, .slice none 0 0] 44)
    have hsz : ((w.alloc (.cells #[.int .i64 k, .int .i64 n, .int .i64 e, .string ⟨s.toArray⟩, .slice A names.length ca, .slice D items.length cb] 44)).alloc (.cells #[.int .i64 0, .int .i64 0, .int .i64 0, .string ⟨#[]⟩, .slice none 0 0, .slice none 0 0] 44)).heap.size = w.heap.size + 2 := by simp
    have hfW := (hf.alloc (.cells #[.int .i64 k, .int .i64 n, .int .i64 e, .string ⟨s.toArray⟩, .slice A names.length ca, .slice D items.length cb] 44)).alloc (.cells #[.int .i64 0, .int .i64 0, .int .i64 0, .string ⟨#[]⟩, .slice none 0 0, .slice none 0 0] 44)
    have hz1 : (w.alloc (.cells #[.int .i64 k, .int .i64 n, .int .i64 e, .string ⟨s.toArray⟩, .slice A names.length ca, .slice D items.length cb] 44)).heap.size = w.heap.size + 1 := by simp
    rw [hz1] at hN1
    generalize (w.alloc (.cells #[.int .i64 k, .int .i64 n, .int .i64 e, .string ⟨s.toArray⟩, .slice A names.length ca, .slice D items.length cb] 44)).alloc (.cells #[.int .i64 0, .int .i64 0, .int .i64 0, .string ⟨#[]⟩, .slice none 0 0, .slice none 0 0] 44) = W at hN0 hN1 hsz hfW ⊢
    have hNW : w.heap.size < W.heap.size := by omega
    have c4 : W.cell? ⟨w.heap.size, 4, none⟩ = some (.slice A names.length ca) := by rw [cell_of_row _ _ _ _ _ _ hN0]; rfl
    have c5 : W.cell? ⟨w.heap.size, 5, none⟩ = some (.slice D items.length cb) := by rw [cell_of_row _ _ _ _ _ _ hN0]; rfl
    clear hN
    go_region_with (first
      | (go_at_call 78; refine (Hot.out _ hfW.drew).mono ?_; rintro e w2 ⟨⟨A', ca', rfl, hA0', hAc', hN'⟩, hf2⟩; have d5 : w2.cell? ⟨w.heap.size, 5, none⟩ = some (.slice D items.length cb) := (hf2.cell (p := ⟨w.heap.size, 5, none⟩) hNW).trans c5)
      | (go_at_call 27; go_loud (refine (Hov.out _ (hfW.drew.trans hf2)).mono ?_; rintro e w3 ⟨⟨v', rfl, hV'⟩, hf3⟩; obtain ⟨D', cb', rfl⟩ := hV'.form; have b3 := (hf3.2.block w.heap.size (Nat.lt_of_lt_of_le hNW hf2.2.size)).trans ((hf2.2.block w.heap.size hNW).trans hN0); have z4 : w3.frozen? ⟨w.heap.size, 4, none⟩ = false := frozen_row b3 4; have z5 : w3.frozen? ⟨w.heap.size, 5, none⟩ = false := frozen_row b3 5; have y4 : w3.cell? ⟨w.heap.size, 4, none⟩ = some (.slice A names.length ca) := (by rw [cell_of_row _ _ _ _ _ _ b3]; rfl); have y5 : w3.cell? ⟨w.heap.size, 5, none⟩ = some (.slice D items.length cb) := (by rw [cell_of_row _ _ _ _ _ _ b3]; rfl))))
    all_goals
      have b31 := (hf3.2.block (w.heap.size + 1) (Nat.lt_of_lt_of_le (show w.heap.size + 1 < W.heap.size by omega) hf2.2.size)).trans ((hf2.2.block (w.heap.size + 1) (show w.heap.size + 1 < W.heap.size by omega)).trans hN1)
      have hfr3 : Fr w.heap.size w w3 := (hfW.drew.trans hf2).trans hf3
      have hfr4 := (hfr3.setCell (p := ⟨w.heap.size, 4, none⟩) (Nat.le_refl _) (.slice A' names.length ca')).setCell (p := ⟨w.heap.size, 5, none⟩) (Nat.le_refl _) (.slice D' items.length cb')
      have b4 := blk_set (blk_set b3 4 (.slice A' names.length ca')) 5 (.slice D' items.length cb')
      have b41 := blk_far (blk_far b31 4 (.slice A' names.length ca') (show w.heap.size + 1 ≠ w.heap.size by omega)) 5 (.slice D' items.length cb') (show w.heap.size + 1 ≠ w.heap.size by omega)
      have hfar : ∀ b, w.heap.size + 2 ≤ b → (((w3.setCell ⟨w.heap.size, 4, none⟩ (.slice A' names.length ca')).setCell ⟨w.heap.size, 5, none⟩ (.slice D' items.length cb'))).heap[b]? = w3.heap[b]? := fun b hb =>
        (Below.heap_setCell _ _ _ _ (show b ≠ w.heap.size by omega)).trans (Below.heap_setCell _ _ _ _ (show b ≠ w.heap.size by omega))
      have hsz2 : W.heap.size ≤ w2.heap.size := hf2.2.size
      have hsz3 : w2.heap.size ≤ w3.heap.size := hf3.2.size
      have hs4 : (((w3.setCell ⟨w.heap.size, 4, none⟩ (.slice A' names.length ca')).setCell ⟨w.heap.size, 5, none⟩ (.slice D' items.length cb'))).heap.size = w3.heap.size := by simp [World.setCell]
      have hN4 : NamesS (fun b => w.heap.size + 2 ≤ b ∧ b < w3.heap.size) w3 A' names := hN'.keep (fun b hb => hf3.2.block b hb.2) (fun b hb => ⟨by have := hb.1; show w.heap.size + 2 ≤ b; rw [← hsz]; exact this, Nat.lt_of_lt_of_le hb.2 hsz3⟩)
      have hV4 : ValsS (fun b => w.heap.size + 2 ≤ b ∧ b < w3.heap.size) w3 (.slice D' items.length cb') items := hV'.keep (fun _ _ => rfl) (fun b hb => ⟨by have := hb.1; omega, hb.2⟩)
      have HN4 := Lib.hid hN4; have HV4 := Lib.hid hV4; have Hfar := Lib.hid hfar; have Hfr4 := Lib.hid hfr4
      clear hN4 hV4 hfar hfr4 hfr3 hN' hV' d5 y4 y5 z4 z5 hf3 hf2 hfW b3 b31 hN0 hN1 c4 c5
      generalize (w3.setCell ⟨w.heap.size, 4, none⟩ (.slice A' names.length ca')).setCell ⟨w.heap.size, 5, none⟩ (.slice D' items.length cb') = W4 at *
      have k0 : W4.cell? ⟨w.heap.size, 0, none⟩ = some (.int .i64 k) := by rw [cell_of_row _ _ _ _ _ _ b4]; rfl
      have k1 : W4.cell? ⟨w.heap.size, 1, none⟩ = some (.int .i64 n) := by rw [cell_of_row _ _ _ _ _ _ b4]; rfl
      have k2 : W4.cell? ⟨w.heap.size, 2, none⟩ = some (.int .i64 e) := by rw [cell_of_row _ _ _ _ _ _ b4]; rfl
      have k3 : W4.cell? ⟨w.heap.size, 3, none⟩ = some (.string ⟨s.toArray⟩) := by rw [cell_of_row _ _ _ _ _ _ b4]; rfl
      have k4 : W4.cell? ⟨w.heap.size, 4, none⟩ = some (.slice A' names.length ca') := by rw [cell_of_row _ _ _ _ _ _ b4]; rfl
      have k5 : W4.cell? ⟨w.heap.size, 5, none⟩ = some (.slice D' items.length cb') := by rw [cell_of_row _ _ _ _ _ _ b4]; rfl
      have j0 : W4.cell? ⟨w.heap.size + 1, 0, none⟩ = some (.int .i64 0) := by rw [cell_of_row _ _ _ _ _ _ b41]; rfl
      have j1 : W4.cell? ⟨w.heap.size + 1, 1, none⟩ = some (.int .i64 0) := by rw [cell_of_row _ _ _ _ _ _ b41]; rfl
      have j2 : W4.cell? ⟨w.heap.size + 1, 2, none⟩ = some (.int .i64 0) := by rw [cell_of_row _ _ _ _ _ _ b41]; rfl
      have j3 : W4.cell? ⟨w.heap.size + 1, 3, none⟩ = some (.string ⟨#[]⟩) := by rw [cell_of_row _ _ _ _ _ _ b41]; rfl
      have j4 : W4.cell? ⟨w.heap.size + 1, 4, none⟩ = some (.slice none 0 0) := by rw [cell_of_row _ _ _ _ _ _ b41]; rfl
      have j5 : W4.cell? ⟨w.heap.size + 1, 5, none⟩ = some (.slice none 0 0) := by rw [cell_of_row _ _ _ _ _ _ b41]; rfl
      have i0 := frozen_row b41 0; have i1 := frozen_row b41 1; have i2 := frozen_row b41 2; have i3 := frozen_row b41 3; have i4 := frozen_row b41 4; have i5 := frozen_row b41 5
      have B41 := Lib.hid b41; clear b41 b4
      go_wp2_with fail
      refine bodyPost_ret (val_res rfl rfl (blk_set (blk_set (blk_set (blk_set (blk_set (blk_set B41.out 0 _) 1 _) 2 _) 3 _) 4 _) 5 _)) rfl ?_
      have hst : Stay (fun b => w.heap.size + 2 ≤ b ∧ b < w3.heap.size) w3 ((((((W4.setCell ⟨w.heap.size + 1, 0, none⟩ (.int .i64 k)).setCell ⟨w.heap.size + 1, 1, none⟩ (.int .i64 n)).setCell ⟨w.heap.size + 1, 2, none⟩ (.int .i64 e)).setCell ⟨w.heap.size + 1, 3, none⟩ (.string ⟨s.toArray⟩)).setCell ⟨w.heap.size + 1, 4, none⟩ (.slice A' names.length ca')).setCell ⟨w.heap.size + 1, 5, none⟩ (.slice D' items.length cb')) := fun b hb => by
        have hne : b ≠ w.heap.size + 1 := by have := hb.1; omega
        rw [Below.heap_setCell _ _ _ _ hne, Below.heap_setCell _ _ _ _ hne, Below.heap_setCell _ _ _ _ hne, Below.heap_setCell _ _ _ _ hne, Below.heap_setCell _ _ _ _ hne, Below.heap_setCell _ _ _ _ hne]
        exact Hfar.out b hb.1
      have hT : ∀ b, (w.heap.size + 2 ≤ b ∧ b < w3.heap.size) → Fresh w ((((((W4.setCell ⟨w.heap.size + 1, 0, none⟩ (.int .i64 k)).setCell ⟨w.heap.size + 1, 1, none⟩ (.int .i64 n)).setCell ⟨w.heap.size + 1, 2, none⟩ (.int .i64 e)).setCell ⟨w.heap.size + 1, 3, none⟩ (.string ⟨s.toArray⟩)).setCell ⟨w.heap.size + 1, 4, none⟩ (.slice A' names.length ca')).setCell ⟨w.heap.size + 1, 5, none⟩ (.slice D' items.length cb')) b := fun b hb => ⟨by omega, by simp [World.setCell]; omega⟩
      have hle : w.heap.size ≤ w.heap.size + 1 := by omega
      exact ⟨⟨_, rfl, repS_of hk hn he hs hA0' hAc' (HN4.out.keep hst hT) hx hln (HV4.out.keep hst hT)⟩,
        (((((Hfr4.out.setCell (p := ⟨w.heap.size + 1, 0, none⟩) hle _).setCell (p := ⟨w.heap.size + 1, 1, none⟩) hle _).setCell (p := ⟨w.heap.size + 1, 2, none⟩) hle _).setCell (p := ⟨w.heap.size + 1, 3, none⟩) hle _).setCell (p := ⟨w.heap.size + 1, 4, none⟩) hle _).setCell (p := ⟨w.heap.size + 1, 5, none⟩) hle _⟩
end Go.Proofs.YtgdedcdjfljcnaaGreatDoor
