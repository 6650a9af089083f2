/- Nodes whose operands stand so many places further: shifted. -/
import Derived.Test.YtgdedcdjfljcnaaGreatDoorM40
import Derived.Test.YtgdedcdjfljcnaaGreatDoorM15
import Derived.Test.YtgdedcdjfljcnaaGreatDoorM41
import Derived.Deep.RegionLaw
namespace Go.Proofs.YtgdedcdjfljcnaaGreatDoor
open Go.RowKit

theorem wrap_mid (n : Int) (h0 : -100000000 ≤ n) (h1 : n ≤ 100000000) : IntKind.i64.wrap n = n := by
  rw [IntKind.wrap_i64]
  omega
theorem small_map {args : List Int} {by_ : Int} {j : Nat} {a : Int} (h : args[j]? = some a) : (args.take (j + 1)).map (· + by_) = (args.take j).map (· + by_) ++ [a + by_] := by rw [List.take_add_one, h, List.map_append]; rfl
set_option maxRecDepth 100000 in
set_option maxHeartbeats 4000000 in
theorem shifted_any {B : Nat} (l : List LN) (d : Int) (A : Option Addr) (ca : Nat) (w : World) (h : LimAt B w A l) (hB : B ≤ w.heap.size) (hm : l.length ≤ 1000) (ha : ∀ x ∈ l, x.args.length ≤ 1000) (hv : ∀ x ∈ l, ∀ a ∈ x.args, -1000000 ≤ a ∧ a ≤ 1000000) (hd : -1000000 ≤ d ∧ d ≤ 1000000) :
    Calls Tryz.prog 32 #[.slice A l.length ca, .int .i64 d] w fun e w' => (∃ v, e = .returned v ∧ RowN w w' v (shiftL d l)) ∧ Fr w.heap.size w w' := by
  have H := Lib.hid h; have Ha := Lib.hid ha; have Hv := Lib.hid hv
  obtain ⟨i0, hi0, hz0, hz1, hz2⟩ := info_of lim_info
  obtain ⟨j0, hj0, hy0, hy1, hy2⟩ := info_of int_info
  obtain ⟨hd1, hd2⟩ := hd
  clear h ha hv
  go_enter Tryz.func32, Tryz.ntmps32
  go_wp2_with fail
  go_loopw [5, 6] (fun u i wr => ∃ m : Nat, m ≤ l.length ∧ i = .int .i64 m ∧ Hid (RowN w wr u (shiftL d (l.take m))) ∧ Fr w.heap.size w wr) (fun _ i _ => l.length - (intOf i).toNat)
  case atStart => exact ⟨0, by omega, by go_num, rowN_nil _ _, Fr.self w⟩
  case round =>
    obtain ⟨m, hml, rfl, hrow, hfm⟩ := hrel
    by_cases hlt : m < l.length
    · obtain ⟨x, hx⟩ : ∃ x, l[m]? = some x := ⟨_, List.getElem?_eq_getElem hlt⟩
      have hLw := H.out.keep (w' := wr) (hfm.2.mono hB)
      obtain ⟨b, off, rfl, -⟩ := hLw.addr hx
      obtain ⟨hbB, A2, ca2, hrep, k0, k1, k2, k3, k4⟩ := hLw.item hx
      have hxa := Ha.out x (List.mem_of_getElem? hx)
      have hxv := Hv.out x (List.mem_of_getElem? hx)
      have htk : shiftL d (l.take (m + 1)) = shiftL d (l.take m) ++ [⟨x.kind, x.lo, x.hi, x.text, x.args.map (· + d)⟩] := by unfold shiftL; rw [List.take_add_one, hx, List.map_append]; rfl
      have Htk := Lib.hid htk
      have hmn : (0 : Int) ≤ m := by omega
      have hmm : (m : Int) < l.length := by omega
      have hml2 : (shiftL d (l.take m)).length = m := by unfold shiftL; rw [List.length_map, List.length_take]; omega
      obtain ⟨css, hcl, hown, hrr⟩ := hrow.out
      rw [hml2] at hcl hown
      have hlt2 := fun g => own_lt hown (g := g)
      obtain ⟨k, lo, hi, t, args⟩ := x
      simp only at k0 k1 k2 k3 k4 hxa hxv
      have hbw : b < wr.heap.size := Nat.lt_of_lt_of_le hbB (Nat.le_trans hB hfm.2.size)
      have hb1 := heap_alloc_new wr (.cells #[.int .i64 k, .int .i64 lo, .int .i64 hi, .string ⟨t.toArray⟩, .slice A2 args.length ca2] 66)
      have hs1 : (wr.alloc (.cells #[.int .i64 k, .int .i64 lo, .int .i64 hi, .string ⟨t.toArray⟩, .slice A2 args.length ca2] 66)).heap.size = wr.heap.size + 1 := by simp
      have hf1 := hfm.alloc (.cells #[.int .i64 k, .int .i64 lo, .int .i64 hi, .string ⟨t.toArray⟩, .slice A2 args.length ca2] 66)
      have hk1 : ∀ b, b < wr.heap.size → (wr.alloc (.cells #[.int .i64 k, .int .i64 lo, .int .i64 hi, .string ⟨t.toArray⟩, .slice A2 args.length ca2] 66)).heap[b]? = wr.heap[b]? := fun b hb => Below.heap_alloc _ _ _ hb
      have Hb1 := Lib.hid hb1; have Hk1 := Lib.hid hk1; have Hf1 := Lib.hid hf1; have Hs1 := Lib.hid hs1
      have Hrr := Lib.hid hrr; have Hown := Lib.hid hown; have Hlt2 := Lib.hid hlt2; have Hxv := Lib.hid hxv; have Hrep := Lib.hid hrep
      have Hx := Lib.hid hx
      clear hx hrep hLw htk hrr hown hlt2 hb1 hk1 hf1 hs1 hxv
      go_wp2_with fail
      obtain ⟨wo, hwo⟩ : ∃ y, y = wr := ⟨_, rfl⟩
      have hb2 : Hid ((wr.alloc (.cells #[.int .i64 k, .int .i64 lo, .int .i64 hi, .string ⟨t.toArray⟩, .slice none 0 0] 66)).heap[wr.heap.size]? = some (.cells #[.int .i64 k, .int .i64 lo, .int .i64 hi, .string ⟨t.toArray⟩, .slice none 0 0] 66 (0, 0))) := heap_alloc_new wr _
      have hk2 : Hid (∀ b, b < wr.heap.size → (wr.alloc (.cells #[.int .i64 k, .int .i64 lo, .int .i64 hi, .string ⟨t.toArray⟩, .slice none 0 0] 66)).heap[b]? = wr.heap[b]?) := fun b hb => Below.heap_alloc _ _ _ hb
      have hf2 : Hid (Fr w.heap.size w (wr.alloc (.cells #[.int .i64 k, .int .i64 lo, .int .i64 hi, .string ⟨t.toArray⟩, .slice none 0 0] 66))) := hfm.alloc _
      have hs2 : Hid (wr.heap.size + 1 ≤ (wr.alloc (.cells #[.int .i64 k, .int .i64 lo, .int .i64 hi, .string ⟨t.toArray⟩, .slice none 0 0] 66)).heap.size) := Lib.hid (by simp)
      subst hwo
      go_loopw [8] (fun kk wi => ∃ (j : Nat) (u4 : Value), j ≤ args.length ∧ kk = .int .i64 j ∧ Hid (wi.heap[wo.heap.size]? = some (.cells #[.int .i64 k, .int .i64 lo, .int .i64 hi, .string ⟨t.toArray⟩, u4] 66 (0, 0))) ∧ Hid (wi.ownsRow (wo.heap.size + 1) 3 1 u4 j (intCells ((args.take j).map (· + d)))) ∧ Hid (∀ b, b < wo.heap.size → wi.heap[b]? = wo.heap[b]?) ∧ Hid (wo.heap.size + 1 ≤ wi.heap.size) ∧ Hid (Fr w.heap.size w wi)) (fun kk _ => args.length - (intOf kk).toNat)
      case atStart => exact ⟨0, _, by omega, by go_num, hb2, World.ownsRow_nil _ _ _ _, hk2, hs2, hf2⟩
      case round =>
        obtain ⟨j, u4, hj, rfl, HB4, HO4, HK4, HS4, HF4⟩ := hrel
        have q0 : wr.cell? ⟨wo.heap.size, 0, none⟩ = some (.int .i64 k) := by rw [cell_of_row _ _ _ _ _ _ HB4.out]; rfl
        have q1 : wr.cell? ⟨wo.heap.size, 1, none⟩ = some (.int .i64 lo) := by rw [cell_of_row _ _ _ _ _ _ HB4.out]; rfl
        have q2 : wr.cell? ⟨wo.heap.size, 2, none⟩ = some (.int .i64 hi) := by rw [cell_of_row _ _ _ _ _ _ HB4.out]; rfl
        have q3 : wr.cell? ⟨wo.heap.size, 3, none⟩ = some (.string ⟨t.toArray⟩) := by rw [cell_of_row _ _ _ _ _ _ HB4.out]; rfl
        have q4 : wr.cell? ⟨wo.heap.size, 4, none⟩ = some u4 := by rw [cell_of_row _ _ _ _ _ _ HB4.out]; rfl
        have r4 := (World.cell?_of_block (a := ⟨b, off + m * 5 + 4, none⟩) (HK4.out b hbw)).trans k4
        obtain ⟨p4, c4, hu4⟩ := own_len HO4.out
        subst hu4
        by_cases hjl : j < args.length
        · obtain ⟨av, hav⟩ : ∃ av, args[j]? = some av := ⟨_, List.getElem?_eq_getElem hjl⟩
          obtain ⟨ab, ao, rfl, hab, hac⟩ := (Hrep.out.args).resolve_left (by rintro h; simp only at h; rw [h] at hav; simp at hav)
          have ra := (World.cell?_of_block (a := ⟨ab, ao + j, none⟩) (HK4.out ab (Nat.lt_of_lt_of_le hab (Nat.le_trans hB hfm.2.size)))).trans (hac j av hav)
          obtain ⟨va1, va2⟩ := Hxv.out av (List.mem_of_getElem? hav)
          have hj1 : (0 : Int) ≤ j := by omega
          have hj2 : (j : Int) < args.length := by omega
          have hgrow : (args.take (j + 1)).map (· + d) = (args.take j).map (· + d) ++ [av + d] := small_map hav
          have Hgrow := Lib.hid hgrow
          have hOd : Hid ((wr.alloc (.cells #[.int .i64 (av + d)] 3)).drew.ownsRow (wo.heap.size + 1) 3 1 (.slice p4 j c4) j (intCells ((args.take j).map (· + d)))) := HO4.out.alloc _
          have hnews : ∀ ad, some (⟨wr.heap.size, 0, none⟩ : Addr) = some ad → ∀ j u, (intCells [av + d])[j]? = some u → (wr.alloc (.cells #[.int .i64 (av + d)] 3)).drew.cell? (ad.add j) = some u := fun ad h j u hu => by
            injection h with h
            subst h
            exact cells_new wr _ _ j u hu
          have Hnews := Lib.hid hnews
          have Ho1 := Lib.hid (intCells_one [av + d])
          have y5 : (wr.alloc (.cells #[.int .i64 (av + d)] 3)).cell? ⟨wo.heap.size, 4, none⟩ = some (.slice p4 j c4) := (World.cell?_alloc_lt _ _ ⟨wo.heap.size, 4, none⟩ (cell_block q4)).trans q4
          have hss := HS4.out
          have hwr : IntKind.i64.wrap (av + d) = av + d := wrap_mid _ (by omega) (by omega)
          clear hac hav hgrow hnews
          go_wp2_with fail
          go_region_law
            (refine step_append_opt (by rfl) _ _ _ (by rfl) (wo.heap.size + 1) 3 j0 _ 1 8 Tryz.underlying64 hj0 hy0 hy1 hy2 rfl (by omega) _ _ _ (by rfl) hOd.out
              (some ⟨wr.heap.size, 0, none⟩) 1 1 (intCells [av + d]) (by rfl) (fun h => by cases h) (by rfl) Hnews.out Ho1.out (by omega) (by unfold maxLen; omega) (by omega) (by simp; omega) ?_; intro gg gcap w4 hown4 hg4 hb4 hl4 hc4; have b3 := (hg4.block wo.heap.size (by simp; omega) (fun e => by have := (own_lt HO4.out e.symm).1; omega)).trans ((Below.heap_alloc _ _ _ (by omega)).trans HB4.out); have y4 : w4.cell? ⟨wo.heap.size, 4, none⟩ = some (.slice p4 j c4) := (by rw [cell_of_row _ _ _ _ _ _ b3]; rfl); have z4 : w4.frozen? ⟨wo.heap.size, 4, none⟩ = false := frozen_row b3 4)
          all_goals
            have hfr4 : Fr w.heap.size w w4 := (((HF4.out).alloc _).drew).grown hg4 (fun g hg => by have := (own_lt HO4.out hg).1; have := hfm.2.size; omega)
            have hs4 : wo.heap.size + 1 ≤ w4.heap.size := by have := hg4.size; simp at this; omega
            have hk4 : ∀ b, b < wo.heap.size → w4.heap[b]? = wo.heap[b]? := fun b hb => (hg4.block b (by simp; omega) (fun e => by have := (own_lt HO4.out e.symm).1; omega)).trans ((Below.heap_alloc _ _ _ (by omega)).trans (HK4.out b hb))
            have hB5 : Hid ((w4.setCell ⟨wo.heap.size, 4, none⟩ (.slice (some ⟨gg, 0, none⟩) (j + 1) gcap)).heap[wo.heap.size]? = some (.cells #[.int .i64 k, .int .i64 lo, .int .i64 hi, .string ⟨t.toArray⟩, .slice (some ⟨gg, 0, none⟩) (j + 1) gcap] 66 (0, 0))) := blk_set b3 4 _
            have hO5 : Hid ((w4.setCell ⟨wo.heap.size, 4, none⟩ (.slice (some ⟨gg, 0, none⟩) (j + 1) gcap)).ownsRow (wo.heap.size + 1) 3 1 (.slice (some ⟨gg, 0, none⟩) (j + 1) gcap) (j + 1) (intCells ((args.take (j + 1)).map (· + d)))) := by
              rw [Hgrow.out, intCells_append]
              exact own_block hown4 (fun b hb => Below.heap_setCell _ _ _ _ (show b ≠ wo.heap.size by simp [Value.ownBlock] at hb; omega))
            have hK5 : Hid (∀ b, b < wo.heap.size → (w4.setCell ⟨wo.heap.size, 4, none⟩ (.slice (some ⟨gg, 0, none⟩) (j + 1) gcap)).heap[b]? = wo.heap[b]?) := fun b hb => (Below.heap_setCell _ _ _ _ (show b ≠ wo.heap.size by omega)).trans (hk4 b hb)
            have hS5 : Hid (wo.heap.size + 1 ≤ (w4.setCell ⟨wo.heap.size, 4, none⟩ (.slice (some ⟨gg, 0, none⟩) (j + 1) gcap)).heap.size) := Lib.hid (by simpa [World.setCell] using hs4)
            have hF5 : Hid (Fr w.heap.size w (w4.setCell ⟨wo.heap.size, 4, none⟩ (.slice (some ⟨gg, 0, none⟩) (j + 1) gcap))) := hfr4.setCell (p := ⟨wo.heap.size, 4, none⟩) hfm.2.size _
            clear hfr4 hs4 hk4 b3 hg4 hown4 hb4 hl4 hc4 y4 z4
            go_wp2_with fail
            go_roundw
            case rel => exact ⟨j + 1, _, by omega, by go_num, hB5, hO5, hK5, hS5, hF5⟩
            case measure => simp [intOf] <;> omega
        · obtain rfl : j = args.length := by omega
          have hown4 : wr.ownsRow (wo.heap.size + 1) 3 1 (.slice p4 args.length c4) args.length (intCells (args.map (· + d))) := by have := HO4.out; rwa [List.take_of_length_le (Nat.le_refl _)] at this
          have Hown4 := Lib.hid hown4
          have hown2 : wr.ownsRow w.heap.size 66 5 u5 m css.flatten := own_block Hown.out fun b hb => HK4.out b (Hlt2.out b hb).2
          have Hown2 := Lib.hid hown2
          have hnews := cells_new wr #[.int .i64 k, .int .i64 lo, .int .i64 hi, .string ⟨t.toArray⟩, .slice p4 args.length c4] 66
          have Hnews := Lib.hid hnews
          have H1 := Lib.hid (node_one ⟨k, lo, hi, t, args⟩ p4 c4)
          have hss := HS4.out
          have hws := hfm.2.size
          clear hown4 hown2 hnews
          go_wp2_with (at_builtin; refine wpList_append_own_at _ rfl _ _ 26 rfl w.heap.size 66 i0 _ 5 64 Tryz.underlying26 hi0 hz0 hz1 hz2 rfl (by decide) _ _ _ rfl (Hown2.out.alloc _) ⟨wr.heap.size, 0, none⟩ 1 1 [.int .i64 k, .int .i64 lo, .int .i64 hi, .string ⟨t.toArray⟩, .slice p4 args.length c4] rfl rfl ?d1 ?d2 ?d3 ?d4 ?d5 ?_)
          case d2 => simp [Value.oneCell']
          case d3 => unfold maxLen; omega
          case d4 => omega
          case d5 => first | omega | (simp; omega)
          intro v' w3 hown3 hg3 _ hat
          have hfr3 : Fr w.heap.size w w3 := (HF4.out.alloc _).grown hg3 (fun g hg => (Hlt2.out g hg).1)
          have hal : (wr.alloc (.cells #[.int .i64 k, .int .i64 lo, .int .i64 hi, .string ⟨t.toArray⟩, .slice p4 args.length c4] 66)).heap.size = wr.heap.size + 1 := by simp
          have hrow3 : Hid (RowN w w3 v' (shiftL d (l.take (m + 1)))) := by
            rw [Htk.out]
            refine rowN_snoc (w2 := wr.alloc (.cells #[.int .i64 k, .int .i64 lo, .int .i64 hi, .string ⟨t.toArray⟩, .slice p4 args.length c4] 66)) (u := u5) (cs := [.int .i64 k, .int .i64 lo, .int .i64 hi, .string ⟨t.toArray⟩, .slice p4 args.length c4]) (by rw [hml2]; exact hcl) ?_ ?_ (fun b hb hne => hg3.block b hb hne) hg3.size ?_ (by rw [hml2]; exact hown3)
            · intro i y c hy hc
              refine (Hrr.out i y c hy hc).keep (fun b hb => (Below.heap_alloc _ _ _ (by have := hb.1.2; omega)).trans (HK4.out b hb.1.2)) (fun b hb => ⟨⟨hb.1.1, by rw [hal]; have := hb.1.2; omega⟩, hb.2⟩)
            · rcases row_cases Hown4.out with ⟨e1, e2, -⟩ | ⟨g, cap, e1, g1, g2, g3, g4⟩
              · injection e1 with e3 e4 e5
                subst e3; subst e5
                have : args = [] := List.eq_nil_of_length_eq_zero e2
                subst this
                exact ⟨none, 0, rfl, .inl rfl, Nat.le_refl _, fun _ => rfl⟩
              · injection e1 with e3 e4 e5
                subst e3; subst e5
                refine ⟨some ⟨g, 0, none⟩, c4, by simp [LN.cells], .inr ⟨g, 0, rfl, ⟨⟨by omega, by rw [hal]; omega⟩, fun e => by have := (Hlt2.out g e.symm).2; omega⟩, fun j y hy => ?_⟩, by simpa using g3, fun h => by cases h⟩
                rw [Nat.zero_add]
                exact (World.cell?_alloc_lt _ _ ⟨g, j, none⟩ g2).trans (g4 j _ (intCells_at hy))
            · rcases hat with h | h
              · exact .inl h
              · exact .inr (by rw [hal]; exact h)
          clear hg3 hown3 hat
          go_wp2_with fail
          go_roundw
          case rel => exact ⟨m + 1, by omega, by go_num, hrow3, hfr3⟩
          case measure => simp [intOf] <;> omega
    · have hrow' : RowN w wr u5 (shiftL d l) := by have := hrow.out; rwa [List.take_of_length_le (by omega)] at this
      have Hrow := Lib.hid hrow'
      obtain ⟨css, hcl, hown, -⟩ := hrow'
      obtain ⟨p, cap, rfl⟩ := own_len hown
      clear hrow hown hcl
      go_wp2_with fail
      go_ret
      exact ⟨⟨_, rfl, Hrow.out⟩, hfm⟩
end Go.Proofs.YtgdedcdjfljcnaaGreatDoor
