/- The contract on what an operation makes of two sets of spans (the reference's). -/
import Derived.Test.YtoelifebmhlokaaGreatDoorSComb
namespace Go.Proofs.YtoelifebmhlokaaGreatDoor
open Go.RowKit

set_option maxRecDepth 100000 in
set_option maxHeartbeats 4000000 in
theorem rCombine_any {B : Nat} (op : Int) (hop : op = 0 ∨ op = 1 ∨ op = 2) (xs ys : List Sp) (A1 A2 : Option Addr) (c1 c2 : Nat) (w : World) (h1 : SpAt B w A1 xs) (h2 : SpAt B w A2 ys) (h10 : A1 = none → c1 = 0) (h20 : A2 = none → c2 = 0) (hB : B ≤ w.heap.size) (hm1 : xs.length ≤ 100) (hm2 : ys.length ≤ 100)
    (hok1 : ∀ s ∈ xs, okB s = true) (hok2 : ∀ s ∈ ys, okB s = true) :
    Calls Tryz.prog 11 #[.int .i64 op, .slice A1 xs.length c1, .slice A2 ys.length c2] w fun e w' => (∃ v, e = .returned v ∧ w'.ownsRow w.heap.size 53 2 v (combineL op xs ys).length (spCells (combineL op xs ys))) ∧ Fr w.heap.size w w' := by
  obtain ⟨i0, hi0, hz0, hz1, hz2⟩ := info_parts span_info
  have hed := rEdges_any xs ys A1 A2 c1 c2 w h1 h2 h10 h20 hB hm1 hm2 hok1 hok2
  have hok : ∀ s ∈ xs ++ ys, okB s = true := fun s hs => by rcases List.mem_append.1 hs with h | h; exact hok1 s h; exact hok2 s h
  have Hin := Lib.hid (edges_in hok)
  have Hcm : Hid (buildC op xs ys (edgesL (xs ++ ys)) [] = combineL op xs ys) := rfl
  have hlen := edgesL_length (xs ++ ys) (xs ++ ys).length
  rw [List.take_of_length_le (Nat.le_refl _), List.length_append] at hlen
  have H1 := Lib.hid h1; have H2 := Lib.hid h2; have Hed := Lib.hid hed
  clear h1 h2 h10 h20 hed hok1 hok2 hok
  generalize edgesL (xs ++ ys) = L at *
  go_enter Tryz.func11, Tryz.ntmps11
  go_wp2_with fail
  refine (Hed.out).mono ?_
  rintro e w1 ⟨⟨v1, rfl, hrow⟩, hf1⟩
  rcases hrow with ⟨rfl, rfl⟩ | ⟨g, cap, rfl, hg, hcap, hpos, hcl⟩
  · have Hfin : Hid ([] = combineL op xs ys) := Hcm.out
    have hon := World.ownsRow_nil w1 w.heap.size 53 2
    have Hon := Lib.hid hon
    clear hon
    go_wp2_with fail
    refine wp_loop_rounds 1 ?_
    rw [rounds_succ]
    go_wp2_with fail
    go_ret
    refine ⟨⟨_, rfl, ?_⟩, hf1⟩
    rw [← Hfin.out]
    exact Hon.out
  · have Hcell := Lib.hid hcl
    clear hcl Hed
    go_wp2_with fail
    go_loopw [8, 9] (fun v i wq => ∃ (k : Nat) (out : List Sp), k ≤ L.length ∧ i = .int .i64 k ∧ Hid (wq.ownsRow w1.heap.size 53 2 v out.length (spCells out)) ∧ Hid (buildC op xs ys (L.drop k) out = combineL op xs ys) ∧ Hid (∀ p ∈ out, -4611686018427387904 ≤ p.hi ∧ p.hi ≤ 4611686018427387904) ∧ out.length ≤ k ∧ Fr w1.heap.size w1 wq) (fun _ i _ => L.length - (intOf i).toNat)
    case atStart => exact ⟨0, [], by omega, by go_num, World.ownsRow_nil w1 _ _ _, by rw [List.drop_zero]; exact Hcm, (fun p hp => by cases hp), by simp, Fr.self w1⟩
    case round =>
      obtain ⟨k, out, hk, rfl, HO, HR, HB, hol, hfq⟩ := hrel
      have hkn : (0 : Int) ≤ k := by omega
      by_cases hk1 : k + 1 < L.length
      · obtain ⟨x, hx⟩ : ∃ x, L[k]? = some x := ⟨_, List.getElem?_eq_getElem (by omega)⟩
        obtain ⟨y, hy⟩ : ∃ y, L[k + 1]? = some y := ⟨_, List.getElem?_eq_getElem hk1⟩
        have d0 : wr.cell? ⟨g, k, none⟩ = some (.int .i64 x) := (hfq.cell (p := ⟨g, k, none⟩) hg).trans (Hcell.out k x hx)
        have d1 : wr.cell? ⟨g, k + 1, none⟩ = some (.int .i64 y) := (hfq.cell (p := ⟨g, k + 1, none⟩) hg).trans (Hcell.out (k + 1) y hy)
        have hkm : (k : Int) < L.length := by omega
        have hkm1 : (k : Int) + 1 < L.length := by omega
        have hxi := Hin.out x (List.mem_of_getElem? hx)
        have hyi := Hin.out y (List.mem_of_getElem? hy)
        have hfwq := hf1.trans hfq
        have hxs : Nat.le B wr.heap.size := Nat.le_trans hB hfwq.2.size
        have Ha : Hid (∀ q, Calls Tryz.prog 22 #[.slice A1 xs.length c1, .int .i64 x] (wr.drewN q) fun e w' => e = .returned (.bool (inB xs x)) ∧ ∃ m, w' = wr.drewN m) := fun q =>
          (rIn_any xs x A1 c1 (wr.drewN q) (H1.out.keep ((hfwq.drewN q).2.mono hB)) hxs (by omega)).mono fun e w' h => ⟨h.1, by obtain ⟨m, hm⟩ := h.2; exact ⟨q + m, by rw [hm, World.drewN_drewN]⟩⟩
        have Hb : Hid (∀ q, Calls Tryz.prog 22 #[.slice A2 ys.length c2, .int .i64 x] (wr.drewN q) fun e w' => e = .returned (.bool (inB ys x)) ∧ ∃ m, w' = wr.drewN m) := fun q =>
          (rIn_any ys x A2 c2 (wr.drewN q) (H2.out.keep ((hfwq.drewN q).2.mono hB)) hxs (by omega)).mono fun e w' h => ⟨h.1, by obtain ⟨m, hm⟩ := h.2; exact ⟨q + m, by rw [hm, World.drewN_drewN]⟩⟩
        have Hst := Lib.hid ((buildC_step (op := op) (a := xs) (b := ys) (out := out) hx hy).symm.trans HR.out)
        have HB2 := Lib.hid (stepC_hi (op := op) (a := xs) (b := ys) (x := x) HB.out (y := y) (by omega))
        have hlen2 : (stepC op xs ys out x y).length ≤ k + 1 := Nat.le_trans stepC_length (by omega)
        have hss : stepC op xs ys out x y = if isInB op (inB xs x) (inB ys x) = true then appL out ⟨x, y - 1⟩ else out := rfl
        clear hx hy
        generalize stepC op xs ys out x y = out2 at *
        generalize inB xs x = b1 at *
        generalize inB ys x = b2 at *
        have Hss := Lib.hid hss
        clear hss
        go_wp2_with fail
        go_quiet (first
          | (go_at_call 22; with_reducible exact Ha.out _)
          | (go_at_call 22; with_reducible exact Hb.out _))
        have hfq2 := hfq.drewN nq
        have hd0 : (wr.drewN nq).cell? ⟨g, k, none⟩ = some (.int .i64 x) := d0
        have hd1 : (wr.drewN nq).cell? ⟨g, k + 1, none⟩ = some (.int .i64 y) := d1
        have HO2 : Hid ((wr.drewN nq).ownsRow w1.heap.size 53 2 u8 out.length (spCells out)) := HO.out
        have hsw : w1.heap.size ≤ (wr.drewN nq).heap.size := hfq2.2.size
        clear d0 d1 HO Ha Hb
        generalize wr.drewN nq = W at *
        have hgW : g < W.heap.size := Nat.lt_of_lt_of_le hg hsw
        have hss := Hss.out
        cases hd : isInB op b1 b2 with
        | false =>
          rw [hd, if_neg (by decide)] at hss
          subst hss
          rcases hop with rfl | rfl | rfl <;> cases b1 <;> cases b2
          all_goals first
            | (exact absurd hd (by decide))
            | (clear hd
               go_wp2_with fail
               go_roundw
               case rel => exact ⟨k + 1, out2, by omega, by go_num, HO2.out, Hst.out, HB2.out, hlen2, hfq2⟩
               case measure => simp [intOf] <;> omega)
        | true =>
          rw [hd, if_pos rfl] at hss
          have Ho1 := Lib.hid (spCells_one [⟨x, y - 1⟩])
          have s2 : IntKind.i64.wrap (y - 1) = y - 1 := IntWalk.i64_in _ (by omega)
          have s4 : IntKind.i64.wrap ((k : Int) + 1) = (k : Int) + 1 := IntWalk.i64_in _ (by omega)
          have s5 : ((k : Int) + 1).toNat = k + 1 := by omega
          have s6 : (0 : Int) ≤ (k : Int) + 1 := by omega
          have hnews : ∀ q, ∀ ad, some (⟨W.heap.size, 0, none⟩ : Addr) = some ad → ∀ j u, (spCells [⟨x, y - 1⟩])[j]? = some u → (((W.drewN q).alloc (.cells #[.int .i64 x, .int .i64 (y - 1)] 53)).drew).cell? (ad.add j) = some u := fun q ad h j u hu => by
            injection h with h
            subst h
            exact cells_new W _ _ j u hu
          have Hnews := Lib.hid hnews
          have Hs2 := Lib.hid s2; have Hs4 := Lib.hid s4; have Hs5 := Lib.hid s5
          clear hnews s2 s4 s5 Hss
          rcases List.eq_nil_or_concat out with rfl | ⟨o, q, rfl⟩
          · rw [appL_nil] at hss
            have Hss := Lib.hid hss
            obtain ⟨p, cap2, hu⟩ := own_len HO2.out
            subst hu
            clear hss
            rcases hop with rfl | rfl | rfl <;> cases b1 <;> cases b2
            all_goals first
              | (exact absurd hd (by decide))
              | skip
            all_goals
              clear hd
              go_wp2_with fail
              go_quiet (fail)
              go_wp2_with fail
              have hfar : some g ≠ (Value.slice p 0 cap2).ownBlock := fun e => by have := (own_lt HO2.out e.symm).1; omega
              have hlw : g < (((W.drewN nq).alloc (.cells #[.int .i64 x, .int .i64 (y - 1)] 53)).drew).heap.size := by simp; omega
              have s2 := Hs2.out; have s4 := Hs4.out; have s5 := Hs5.out
              go_region_held3 (fun w' => w'.cell? ⟨g, k, none⟩ = some (.int .i64 x) ∧ w'.cell? ⟨g, k + 1, none⟩ = some (.int .i64 y))
                (first
                  | go_keep
                  | (go_split_ands
                     refine ⟨?_, ?_⟩
                     · (rw [hg9.cell_far (a := ⟨g, k, none⟩) hlw hfar]; assumption)
                     · (rw [hg9.cell_far (a := ⟨g, k + 1, none⟩) hlw hfar]; assumption)))
                ((refine step_append_opt (by rfl) _ _ _ (by rfl) w1.heap.size 53 i0 _ 2 16 Tryz.underlying22 hi0 hz0 hz1 hz2 rfl (by omega) _ _ _ (by rfl) (((HO2.out.drewN nq).alloc _).drew)
                    (some ⟨W.heap.size, 0, none⟩) 1 1 (spCells [⟨x, y - 1⟩]) (by rfl) (fun h => by cases h) (by rfl) (Hnews.out nq) Ho1.out (by omega) (by unfold maxLen; omega) (by omega) (by simp; omega) ?_; intro g9 cap9 w9 hown9 hg9 hb9 hlt9 hc9))
              have hf9 : Fr w1.heap.size w1 w9 := (((hfq2.drewN nq).alloc _).drew).grown hg9 (fun g hg => (own_lt HO2.out hg).1)
              have Hown9 : Hid (w9.ownsRow w1.heap.size 53 2 (.slice (some ⟨g9, 0, none⟩) 1 cap9) out2.length (spCells out2)) := by
                have h9 := hown9
                show w9.ownsRow _ _ _ _ _ _
                rw [Hss.out]
                simpa [spCells] using h9
              clear hown9 hg9 hb9 hlt9 hc9 s2 s4 s5 hfar hlw
              go_wp2_with fail
              go_roundw
              case rel => exact ⟨k + 1, out2, by omega, by go_num, Hown9.out, Hst.out, HB2.out, hlen2, hf9⟩
              case measure => simp [intOf] <;> omega
          · rw [List.concat_eq_append] at *
            obtain ⟨hq1, hq2⟩ := HB.out q (by simp)
            have hn : (o ++ [q]).length = o.length + 1 := by simp
            rw [hn] at HO2 hol
            obtain ⟨-, hcc⟩ := spCells_get (o ++ [q]) o.length q (by simp)
            rcases own_cases HO2.out with ⟨-, h0, -⟩ | ⟨g2, cap2, rfl, hg20, hg2, hcap2, hcl2⟩
            · omega
            have e0 : W.cell? ⟨g2, o.length * 2 + 1, none⟩ = some (.int .i64 q.hi) := hcl2 _ _ hcc
            have f0 : W.frozen? ⟨g2, o.length * 2 + 1, none⟩ = false := own_frozen HO2.out
            have t1 : IntKind.i64.wrap ((o.length : Int) + 1 - 1) = (o.length : Int) := (IntWalk.i64_in _ (by omega)).trans (by omega)
            have t3 : (o.length : Int) + 1 - 1 = (o.length : Int) := by omega
            have t2 : IntKind.i64.wrap (q.hi + 1) = q.hi + 1 := IntWalk.i64_in _ (by omega)
            have ho0 : (0 : Int) ≤ o.length := by omega
            have ho1 : (o.length : Int) < (o.length : Int) + 1 := by omega
            have ho2 : (0 : Int) < (o.length : Int) + 1 := by omega
            clear hcl2 hcc hn
            by_cases he : q.hi + 1 = x
            · rw [appL_join (s := ⟨x, y - 1⟩) he] at hss
              have heb : (q.hi + 1 == x) = true := by simpa using he
              have Hj := Lib.hid (spCells_join o q (y - 1))
              have Hss := Lib.hid hss
              clear hss he
              rcases hop with rfl | rfl | rfl <;> cases b1 <;> cases b2
              all_goals first
                | (exact absurd hd (by decide))
                | skip
              all_goals
                clear hd
                go_wp2_with fail
                go_quiet (fail)
                go_wp2_with fail
                have Hown9 : Hid (((W.drewN nq).setCell ⟨g2, o.length * 2 + 1, none⟩ (.int .i64 (y - 1))).ownsRow w1.heap.size 53 2 (.slice (some ⟨g2, 0, none⟩) (o.length + 1) cap2) out2.length (spCells out2)) := by
                  show ((W.drewN nq).setCell _ _).ownsRow _ _ _ _ _ _
                  rw [Hss.out, ← Hj.out]
                  have hn : (o ++ [(⟨q.lo, y - 1⟩ : Sp)]).length = o.length + 1 := by simp
                  rw [hn]
                  exact own_set (HO2.out.drewN nq) (by omega)
                have hf9 := (hfq2.drewN nq).setCell (p := ⟨g2, o.length * 2 + 1, none⟩) hg20 (.int .i64 (y - 1))
                go_roundw
                case rel => exact ⟨k + 1, out2, by omega, by go_num, Hown9.out, Hst.out, HB2.out, hlen2, hf9⟩
                case measure => simp [intOf] <;> omega
            · rw [appL_apart (s := ⟨x, y - 1⟩) he] at hss
              have heb : (q.hi + 1 == x) = false := by simpa using he
              have Hss := Lib.hid hss
              clear hss he
              rcases hop with rfl | rfl | rfl <;> cases b1 <;> cases b2
              all_goals first
                | (exact absurd hd (by decide))
                | skip
              all_goals
                clear hd
                go_wp2_with fail
                go_quiet (fail)
                clear t1 t2 t3 e0 f0
                go_wp2_with fail
                have hfar : some g ≠ (Value.slice (some ⟨g2, 0, none⟩) (o.length + 1) cap2).ownBlock := fun e => by have := (own_lt HO2.out e.symm).1; omega
                have hlw : g < (((W.drewN nq).alloc (.cells #[.int .i64 x, .int .i64 (y - 1)] 53)).drew).heap.size := by simp; omega
                have s2 := Hs2.out; have s4 := Hs4.out; have s5 := Hs5.out
                go_region_held3 (fun w' => w'.cell? ⟨g, k, none⟩ = some (.int .i64 x) ∧ w'.cell? ⟨g, k + 1, none⟩ = some (.int .i64 y))
                  (first
                    | go_keep
                    | (go_split_ands
                       refine ⟨?_, ?_⟩
                       · (rw [hg9.cell_far (a := ⟨g, k, none⟩) hlw hfar]; assumption)
                       · (rw [hg9.cell_far (a := ⟨g, k + 1, none⟩) hlw hfar]; assumption)))
                  ((refine step_append_opt (by rfl) _ _ _ (by rfl) w1.heap.size 53 i0 _ 2 16 Tryz.underlying22 hi0 hz0 hz1 hz2 rfl (by omega) _ _ _ (by rfl) (((HO2.out.drewN nq).alloc _).drew)
                      (some ⟨W.heap.size, 0, none⟩) 1 1 (spCells [⟨x, y - 1⟩]) (by rfl) (fun h => by cases h) (by rfl) (Hnews.out nq) Ho1.out (by omega) (by unfold maxLen; omega) (by omega) (by simp; omega) ?_; intro g9 cap9 w9 hown9 hg9 hb9 hlt9 hc9))
                have hf9 : Fr w1.heap.size w1 w9 := (((hfq2.drewN nq).alloc _).drew).grown hg9 (fun g hg => (own_lt HO2.out hg).1)
                have Hown9 : Hid (w9.ownsRow w1.heap.size 53 2 (.slice (some ⟨g9, 0, none⟩) (o.length + 1 + 1) cap9) out2.length (spCells out2)) := by
                  have h9 := hown9
                  show w9.ownsRow _ _ _ _ _ _
                  rw [Hss.out]
                  rw [← spCells_append] at h9
                  have hn : (o ++ [q] ++ [(⟨x, y - 1⟩ : Sp)]).length = o.length + 1 + 1 := by simp
                  rw [hn]
                  exact h9
                clear hown9 hg9 hb9 hlt9 hc9 s2 s4 s5 hfar hlw
                go_wp2_with fail
                go_roundw
                case rel => exact ⟨k + 1, out2, by omega, by go_num, Hown9.out, Hst.out, HB2.out, hlen2, hf9⟩
                case measure => simp [intOf] <;> omega
      · have Hfin := Lib.hid ((buildC_end (op := op) (a := xs) (b := ys) (out := out) (L := L) (k := k) (by omega)).symm.trans HR.out)
        have hwb := hf1.2.size
        have hk2 : ¬ ((k : Int) + 1 < L.length) := by omega
        go_wp2_with fail
        go_ret
        refine ⟨⟨_, rfl, ?_⟩, hf1.trans hfq⟩
        rw [← Hfin.out]
        exact HO.out.base hwb
end Go.Proofs.YtoelifebmhlokaaGreatDoor
