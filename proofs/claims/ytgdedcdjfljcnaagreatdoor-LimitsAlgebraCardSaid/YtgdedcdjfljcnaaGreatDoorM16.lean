/- The contract on what an operation makes of two sets of spans (the program's). The contract on Combined. -/
import Derived.Test.YtgdedcdjfljcnaaGreatDoorM09
import Derived.Test.YtgdedcdjfljcnaaGreatDoorShelf
import Derived.Sort.OwnSortedInts
namespace Go.Proofs.YtgdedcdjfljcnaaGreatDoor
open Go.RowKit Go.Sort

set_option maxRecDepth 100000 in
set_option maxHeartbeats 2000000 in
theorem combined_any {B : Nat} (op : Int) (xs ys : List Sp) (A1 A2 : Option Addr) (c1 c2 : Nat) (w : World) (h1 : SpAt B w A1 xs) (h2 : SpAt B w A2 ys) (h10 : A1 = none → c1 = 0) (h20 : A2 = none → c2 = 0) (hB : B ≤ w.heap.size) (hm1 : xs.length ≤ 100) (hm2 : ys.length ≤ 100)
    (hok1 : ∀ s ∈ xs, okB s = true) (hok2 : ∀ s ∈ ys, okB s = true) :
    Calls Tryz.prog 34 #[.int .i64 op, .slice A1 xs.length c1, .slice A2 ys.length c2] w fun e w' => (∃ v, e = .returned v ∧ w'.ownsRow w.heap.size 55 2 v (combineL op xs ys).length (spCells (combineL op xs ys))) ∧ Fr w.heap.size w w' := by
  obtain ⟨i0, hi0, hz0, hz1, hz2⟩ := info_parts span_info
  obtain ⟨j0, hj0, hy0, hy1, hy2⟩ := info_parts int_info
  have hf := (Fr.self w).alloc (.cells #[.slice A1 xs.length c1, .slice A2 ys.length c2] 34)
  have hcc := concat_any xs ys A1 A2 c1 c2 w.heap.size _ (h1.keep (hf.2.mono hB)) (h2.keep (hf.2.mono hB)) h10 h20 (Nat.le_trans hB hf.2.size) hm1 hm2 (by simp) (cell_new w _ _ 0) (cell_new w _ _ 1)
  have Hcc := Lib.hid hcc
  have H1 := Lib.hid h1; have H2 := Lib.hid h2
  have Hok : Hid (∀ s ∈ xs ++ ys, okB s = true) := fun s hs => by rcases List.mem_append.1 hs with h | h; exact hok1 s h; exact hok2 s h
  clear h1 h2 h10 h20 hcc hok1 hok2
  go_enter Tryz.func34, Tryz.ntmps34
  go_wp2_with fail
  refine (Hcc.out).mono ?_
  rintro e w1 ⟨⟨v1, rfl, hown1⟩, hf1⟩
  have hf01 := hf.trans hf1
  obtain ⟨A4, c4, rfl, -, hsp4, hlen4, -⟩ := SpAt.of hown1
  have hn4 : (xs ++ ys).length ≤ 200 := by rw [List.length_append]; omega
  have hn5 : xs.length + ys.length = (xs ++ ys).length := by rw [List.length_append]
  generalize hl : xs ++ ys = l at *
  have Hl := Lib.hid hl
  have Hsp := Lib.hid hsp4
  clear hown1 hsp4 hlen4 hl Hcc hn5
  go_wp2_with fail
  go_loopw [7, 18] (fun v i wr => ∃ m : Nat, m ≤ l.length ∧ i = .int .i64 m ∧ Hid (wr.ownsRow w1.heap.size 3 1 v (2 * m) (intCells (flatS (l.take m)))) ∧ Fr w1.heap.size w1 wr) (fun _ i _ => l.length - (intOf i).toNat)
  case atStart => exact ⟨0, by omega, by go_num, World.ownsRow_nil w1 _ _ _, Fr.self w1⟩
  case round =>
    obtain ⟨m, hml, rfl, HV, hfr⟩ := hrel
    by_cases hlt : m < l.length
    · obtain ⟨s, hs⟩ : ∃ s, l[m]? = some s := ⟨_, List.getElem?_eq_getElem hlt⟩
      obtain ⟨b, off, rfl, hbB, d0, d1⟩ := (Hsp.out.keep (w' := wr) hfr.2).item hs
      have hmn : (0 : Int) ≤ m := by omega
      have hmm : (m : Int) < l.length := by omega
      have hsok := okB_in (Hok.out s (List.mem_of_getElem? hs))
      have Ht := Lib.hid (flatS_take hs)
      have hnews : ∀ ad, some (⟨wr.heap.size + 1, 0, none⟩ : Addr) = some ad → ∀ j u, (intCells [s.lo, s.hi + 1])[j]? = some u → ((wr.alloc (.cells #[.int .i64 s.lo, .int .i64 s.hi] 55)).alloc (.cells #[.int .i64 s.lo, .int .i64 (s.hi + 1)] 3)).cell? (ad.add j) = some u := fun ad h j u hu => by
        injection h with h
        subst h
        have := cells_new (wr.alloc (.cells #[.int .i64 s.lo, .int .i64 s.hi] 55)) #[.int .i64 s.lo, .int .i64 (s.hi + 1)] 3 j u hu
        simpa using this
      have Hnews := Lib.hid hnews
      have Ho := Lib.hid (intCells_one [s.lo, s.hi + 1])
      have hsz := hfr.2.size
      clear hs hnews
      go_wp2_with (at_builtin; refine wpList_append_opt rfl _ _ 64 rfl w1.heap.size 3 j0 _ 1 8 Tryz.underlying64 hj0 hy0 hy1 hy2 rfl (by decide) _ _ _ rfl ((HV.out.alloc _).alloc _) (some ⟨wr.heap.size + 1, 0, none⟩) 2 2 (intCells [s.lo, s.hi + 1]) rfl (fun h => by cases h) rfl Hnews.out Ho.out ?d3 ?d4 ?d5 ?_)
      case d3 => unfold maxLen; omega
      case d4 => omega
      case d5 => simp; omega
      intro v4 w4 hown4 hg4 _
      have hf4 : Fr w1.heap.size w1 w4 := ((hfr.alloc _).alloc _).grown hg4 (fun g hg => (own_lt HV.out hg).1)
      have Hown4 := Lib.hid hown4
      clear hown4 hg4
      go_wp2_with fail
      go_roundw
      case rel => exact ⟨m + 1, by omega, by go_num, by rw [Ht.out, intCells_append]; exact Hown4.out, hf4⟩
      case measure => simp [intOf] <;> omega
    · have hlm : m = l.length := by omega
      subst hlm
      have hv := HV.out
      rw [List.take_of_length_le (Nat.le_refl _)] at hv
      have Hv := Lib.hid hv
      clear hv HV
      by_cases hl0 : l.length = 0
      · have hcl : combineL op xs ys = [] := combineL_nil (by rw [Hl.out]; exact hl0)
        have Hcl := Lib.hid hcl
        obtain ⟨p, cap, hu⟩ := own_len Hv.out
        rw [hl0] at hu
        subst hu
        have hl0' : (l.length : Int) = 0 := by omega
        have Hso := Lib.hid (fun W => Tryz.slices_Sort_int_none p cap W)
        have Hco := Lib.hid (fun W => Tryz.slices_Compact_int_empty p cap W)
        clear hcl
        go_wp2_with fail
        refine (Hso.out _).mono ?_
        rintro e w5 ⟨rfl, rfl⟩
        go_wp2_with fail
        refine (Hco.out _).mono ?_
        rintro e w6 ⟨rfl, rfl⟩
        go_wp2_with fail
        refine wp_loop_rounds 1 ?_
        rw [rounds_succ]
        go_wp2_with fail
        go_ret
        refine ⟨⟨_, rfl, ?_⟩, hf01.trans hfr⟩
        rw [Hcl.out]
        exact World.ownsRow_nil _ _ _ _
      · rcases own_cases Hv.out with ⟨-, h0, -⟩ | ⟨g, cap, rfl, hg0, hg, hcap, hcl⟩
        · omega
        obtain ⟨hvl, hvv⟩ := Hv.out
        rcases hvv with ⟨h0, -⟩ | ⟨g', cap', cur, hvv, -, hcur, -, hcapm, hcs, hct⟩
        · cases h0
        cases hvv
        have hfl : (flatS l).length = 2 * l.length := flatS_length l
        have hH := holds_of_blockI (ss := flatS l) hcur (by rw [hfl]; rw [Nat.mul_one] at hct; exact hct)
        have hso := Tryz.slices_Sort_int g 0 cap (flatS l) wr hH hg (by omega)
        rw [hfl] at hso
        have hown5 := fun (q : Nat) (os : Array Obj) => ownsRow_sortedI (n := q) (os := os) (ss := flatS l) (ts := (flatS l).mergeSort fun x y => decide (x ≤ y)) (base := w1.heap.size) (sort_length _) hg0 hcur (by omega) hcapm hcs
        have Hso := Lib.hid hso; have Hown5 := Lib.hid hown5
        clear hso hown5 hH hcur hct hcs hvl hcl
        go_wp2_with fail
        refine (Hso.out).mono ?_
        rintro e w5 ⟨rfl, q5, os5, hw5⟩
        have hf5 : Fr w1.heap.size w1 w5 := hfr.grown (by rw [hw5]; exact grownBy_sortedI _) (fun k hk => by cases hk; exact hg0)
        have hown := Hown5.out q5 os5
        rw [← hw5] at hown
        clear Hso Hown5 hw5
        obtain ⟨-, hvv⟩ := hown
        rcases hvv with ⟨h0, -⟩ | ⟨g', cap', cur5, hvv, -, hcur5, -, -, hcs5, hct5⟩
        · cases h0
        cases hvv
        have hg5 : g < w5.heap.size := (Array.getElem?_eq_some_iff.1 hcur5).1
        have hzl : ((flatS l).mergeSort fun x y => decide (x ≤ y)).length = 2 * l.length := by rw [sort_length, hfl]
        have hce := compact_edges l
        generalize (flatS l).mergeSort (fun x y => decide (x ≤ y)) = zs at *
        rw [hfl, Nat.mul_one] at hct5
        have hH5 := holds_of_blockI (ss := zs) hcur5 (by rw [hzl]; exact hct5)
        have hco := Tryz.slices_Compact_int g 0 cap zs w5 hH5 (by omega) (by omega)
        have hcl := compact_length zs
        rw [hzl] at hco hcl
        have hown6 := fun (q : Nat) => ownsRow_sortedI (n := q) (os := #[]) (ss := zs) (ts := Lib.compact zs ++ List.replicate (2 * l.length - (Lib.compact zs).length) 0) (base := w1.heap.size) (by rw [List.length_append, List.length_replicate]; omega) hg0 hcur5 (by omega) hcapm hcs5
        rw [hce] at hco hown6 hcl
        have hst := edges_strict l
        have hin := edges_in Hok.out
        have Hlast := Lib.hid (fun (k : Nat) (x : Int) (hx : (edgesL l)[k]? = some x) (hk : (edgesL l).length = k + 1) => (⟨last_out hx hk (m := xs) (fun s hs => by rw [← Hl.out]; simp [hs]), last_out hx hk (m := ys) (fun s hs => by rw [← Hl.out]; simp [hs])⟩ : inB xs x = false ∧ inB ys x = false))
        have Hcm : Hid (buildC op xs ys (edgesL l) [] = combineL op xs ys) := by unfold combineL; rw [Hl.out]; rfl
        have Hst := Lib.hid hst; have Hin := Lib.hid hin; have Hco := Lib.hid hco; have Hown6 := Lib.hid hown6
        clear hst hin hco hown6 hce hH5 hct5
        generalize edgesL l = L at *
        go_wp2_with fail
        refine (Hco.out).mono ?_
        rintro e w6 ⟨rfl, q6, hw6⟩
        have hf6 : Fr w1.heap.size w1 w6 := hf5.grown (by rw [hw6]; have := grownBy_sortedI (w := w5) (g := g) (n := q6) (os := #[]) ((L ++ List.replicate (2 * l.length - L.length) 0).toArray); rwa [grow_empty] at this) (fun k hk => by cases hk; exact hg0)
        have hown := Hown6.out q6
        rw [grow_empty, ← hw6] at hown
        have hcell : ∀ j x, L[j]? = some x → w6.cell? ⟨g, j, none⟩ = some (.int .i64 x) := fun j x hx => by
          rcases own_cases hown with ⟨h0, -⟩ | ⟨g', cap', h0, -, -, -, hc⟩
          · cases h0
          · cases h0
            refine hc j _ ?_
            rw [List.getElem?_map, List.getElem?_append_left (List.getElem?_eq_some_iff.1 hx).1, hx]; rfl
        have hg6 : g < w6.heap.size := by
          rcases own_cases hown with ⟨h0, -⟩ | ⟨g', cap', h0, -, hlt, -, -⟩
          · cases h0
          · cases h0; exact hlt
        have Hcell := Lib.hid hcell
        have hfw6 := hf01.trans hf6
        have hcapL : L.length ≤ cap := by omega
        clear hown hcell Hco Hown6 hw6 hcur5 hcs5
        go_wp2_with fail
        go_loopw [10, 37] (fun v i wq => ∃ (k : Nat) (out : List Sp), k ≤ L.length ∧ i = .int .i64 k ∧ Hid (wq.ownsRow w6.heap.size 55 2 v out.length (spCells out)) ∧ Hid (buildC op xs ys (L.drop k) out = combineL op xs ys) ∧ Hid (∀ p ∈ out, -4611686018427387904 ≤ p.hi ∧ p.hi ≤ 4611686018427387904) ∧ out.length ≤ k ∧ Fr w6.heap.size w6 wq) (fun _ i _ => L.length - (intOf i).toNat)
        case atStart => exact ⟨0, [], by omega, by go_num, World.ownsRow_nil w6 _ _ _, by rw [List.drop_zero]; exact Hcm, (fun p hp => by cases hp), by simp, Fr.self w6⟩
        case round =>
          obtain ⟨k, out, hk, rfl, HO, HR, HB, hol, hfq⟩ := hrel
          by_cases hlt : k < L.length
          · obtain ⟨x, hx⟩ : ∃ x, L[k]? = some x := ⟨_, List.getElem?_eq_getElem hlt⟩
            have c0 : wr.cell? ⟨g, k, none⟩ = some (.int .i64 x) := (hfq.cell (p := ⟨g, k, none⟩) hg6).trans (Hcell.out k x hx)
            have hkn : (0 : Int) ≤ k := by omega
            have hkm : (k : Int) < L.length := by omega
            have hxi := Hin.out x (List.mem_of_getElem? hx)
            have hfwq := hfw6.trans hfq
            have hxs : Nat.le B wr.heap.size := Nat.le_trans hB hfwq.2.size
            have Ha := Lib.hid (has_any xs x A1 c1 wr (H1.out.keep (hfwq.2.mono hB)) hxs (by omega))
            have Hb := Lib.hid (fun (W : World) (hW : Fr wr.heap.size wr W) => has_any ys x A2 c2 W (H2.out.keep ((hfwq.trans hW).2.mono hB)) (Nat.le_trans hxs hW.2.size) (by omega))
            by_cases hk1 : k + 1 < L.length
            · obtain ⟨y, hy⟩ : ∃ y, L[k + 1]? = some y := ⟨_, List.getElem?_eq_getElem hk1⟩
              have hyi := Hin.out y (List.mem_of_getElem? hy)
              have Hst := Lib.hid ((buildC_step (op := op) (a := xs) (b := ys) (out := out) hx hy).symm.trans HR.out)
              have HB2 := Lib.hid (stepC_hi (op := op) (a := xs) (b := ys) (x := x) HB.out (y := y) (by omega))
              have hlen2 : (stepC op xs ys out x y).length ≤ k + 1 := Nat.le_trans stepC_length (by omega)
              have hss : stepC op xs ys out x y = if isInB op (inB xs x) (inB ys x) = true then appL out ⟨x, y - 1⟩ else out := rfl
              have Hcy := Lib.hid (Hcell.out (k + 1) y hy)
              clear hx hy
              generalize stepC op xs ys out x y = out2 at *
              go_wp2_with fail
              refine (Ha.out).mono ?_
              rintro e w7 ⟨rfl, hf7⟩
              go_wp2_with fail
              refine (Hb.out w7 hf7).mono ?_
              rintro e w8 ⟨rfl, hf8⟩
              have hf78 := hf7.trans hf8
              have hz8 := hf78.2.size
              have hown8 := own_below HO.out hf78.2
              have hsz6 := hfq.2.size
              have c1 : w8.cell? ⟨g, k + 1, none⟩ = some (.int .i64 y) := ((hfq.trans hf78).cell (p := ⟨g, k + 1, none⟩) hg6).trans Hcy.out
              have Hii := Lib.hid (fun W => isIn_any op (inB xs x) (inB ys x) W)
              generalize isInB op (inB xs x) (inB ys x) = d at *
              generalize inB xs x = d1 at *
              generalize inB ys x = d2 at *
              have Hap := Lib.hid (appended_any out ⟨x, y - 1⟩ u10 w6.heap.size w8 hown8 (by omega) HB.out (by omega))
              have Hown8 := Lib.hid hown8
              clear hown8
              cases d with
              | true =>
                rw [if_pos rfl] at hss
                have Hss := Lib.hid hss
                have hk2 : ((k : Int) + 1) < L.length := by omega
                clear hss
                go_wp2_with fail
                refine (Hii.out _).mono ?_
                rintro e w' ⟨rfl, rfl⟩
                go_wp2_with fail
                refine (Hap.out).mono ?_
                rintro e w9 ⟨⟨v9, rfl, hown9⟩, hf9⟩
                rw [← Hss.out] at hown9
                have Hown9 := Lib.hid hown9
                clear hown9
                go_wp2_with fail
                go_roundw
                case rel => exact ⟨k + 1, out2, by omega, by go_num, Hown9.out, Hst.out, HB2.out, hlen2, ⟨Nat.le_refl _, ((hfq.trans hf78).2.trans hf9.2)⟩⟩
                case measure => simp [intOf] <;> omega
              | false =>
                rw [if_neg (by decide)] at hss
                subst hss
                go_wp2_with fail
                refine (Hii.out _).mono ?_
                rintro e w' ⟨rfl, rfl⟩
                go_wp2_with fail
                go_roundw
                case rel => exact ⟨k + 1, out2, by omega, by go_num, Hown8.out, Hst.out, HB2.out, hlen2, hfq.trans hf78⟩
                case measure => simp [intOf] <;> omega
            · obtain ⟨e1, e2⟩ := Hlast.out k x hx (by omega)
              rw [e1] at Ha; rw [e2] at Hb
              have Hfin := Lib.hid ((buildC_end (op := op) (a := xs) (b := ys) (out := out) (L := L) (k := k + 1) (by omega)).trans ((buildC_end (by omega)).symm.trans HR.out))
              have hif := isIn_any op false false
              rw [isIn_none] at hif
              have Hii := Lib.hid hif
              clear hx e1 e2 hif
              go_wp2_with fail
              refine (Ha.out).mono ?_
              rintro e w7 ⟨rfl, hf7⟩
              go_wp2_with fail
              refine (Hb.out w7 hf7).mono ?_
              rintro e w8 ⟨rfl, hf8⟩
              have hf78 := hf7.trans hf8
              have Hown8 := Lib.hid (own_below HO.out hf78.2)
              go_wp2_with fail
              refine (Hii.out _).mono ?_
              rintro e w' ⟨rfl, rfl⟩
              go_wp2_with fail
              go_roundw
              case rel => exact ⟨k + 1, out, by omega, by go_num, Hown8.out, Hfin.out, HB.out, by omega, hfq.trans hf78⟩
              case measure => simp [intOf] <;> omega
          · have Hfin := Lib.hid ((buildC_end (op := op) (a := xs) (b := ys) (out := out) (L := L) (k := k) (by omega)).symm.trans HR.out)
            have hwb := hfw6.2.size
            go_wp2_with fail
            go_ret
            refine ⟨⟨_, rfl, ?_⟩, hfw6.trans hfq⟩
            rw [← Hfin.out]
            exact HO.out.base hwb
end Go.Proofs.YtgdedcdjfljcnaaGreatDoor
namespace Go.Proofs.YtgdedcdjfljcnaaGreatDoor
open Go.RowKit

theorem spFrom_ok (l : List Sp) : ∀ (n k : Nat), l.length - k = n → (spFrom l k).2 = 0 → ∀ i s, k ≤ i → l[i]? = some s → okB s = true := by
  intro n
  induction n with
  | zero =>
    intro k hn _ i s hi hs
    have := (List.getElem?_eq_some_iff.1 hs).1
    omega
  | succ n ih =>
    intro k hn h i s hi hs
    obtain ⟨t, ht⟩ : ∃ t, l[k]? = some t := ⟨_, List.getElem?_eq_getElem (by omega)⟩
    rw [spFrom_at ht] at h
    split at h
    · rename_i hok
      split at h
      · simp at h
      · rcases Nat.lt_or_ge k i with h1 | h1
        · exact ih (k + 1) (by omega) h i s h1 hs
        · obtain rfl : i = k := by omega
          rw [ht] at hs; injection hs with hs; subst hs; exact hok
    · simp at h
theorem spErr_ok {l : List Sp} (h : (spErr l).2 = 0) : l.length ≤ 40 ∧ ∀ s ∈ l, okB s = true := by
  unfold spErr at h
  split at h
  · simp at h
  · refine ⟨by omega, fun s hs => ?_⟩
    obtain ⟨i, hi, rfl⟩ := List.getElem_of_mem hs
    exact spFrom_ok l _ 0 rfl h i _ (by omega) (List.getElem?_eq_getElem hi)
def combErr (op : Int) (xs ys : List Sp) : Int := if op < 0 ∨ 3 ≤ op then 4 else if (spErr xs).2 ≠ 0 then (spErr xs).2 else (spErr ys).2
def combE (op : Int) (xs ys : List Sp) : Int := if combErr op xs ys ≠ 0 then combErr op xs ys else if 40 < (combineL op xs ys).length then 2 else 0
/-- What is handed back: nothing with an error, else what the operation makes. -/
def CombRes (w' : World) (base : Nat) (op : Int) (xs ys : List Sp) (v : Value) : Prop :=
  (combE op xs ys ≠ 0 → v = .slice none 0 0) ∧ (combE op xs ys = 0 → w'.ownsRow base 55 2 v (combineL op xs ys).length (spCells (combineL op xs ys)))
theorem CombRes.err {w' : World} {base : Nat} {op : Int} {xs ys : List Sp} (h : combE op xs ys ≠ 0) : CombRes w' base op xs ys (.slice none 0 0) := ⟨fun _ => rfl, fun h2 => absurd h2 h⟩
set_option maxRecDepth 20000 in
set_option maxHeartbeats 1000000 in
theorem Combined_any {B : Nat} (op : Int) (xs ys : List Sp) (A1 A2 : Option Addr) (c1 c2 : Nat) (w : World) (h1 : SpAt B w A1 xs) (h2 : SpAt B w A2 ys) (h10 : A1 = none → c1 = 0) (h20 : A2 = none → c2 = 0) (hB : B ≤ w.heap.size) (hm1 : xs.length ≤ 100) (hm2 : ys.length ≤ 100) :
    Calls Tryz.prog 15 #[.int .i64 op, .slice A1 xs.length c1, .slice A2 ys.length c2] w fun e w' => (∃ v, e = .returned (.tuple #[v, .int .i64 (combE op xs ys)]) ∧ CombRes w' w.heap.size op xs ys v) ∧ Fr w.heap.size w w' := by
  have hf := Fr.self w
  by_cases hop : op < 0 ∨ 3 ≤ op
  · have hv : combE op xs ys = 4 := by
      have h : combErr op xs ys = 4 := by unfold combErr; rw [if_pos hop]
      unfold combE; rw [h]; rfl
    have Hv := Lib.hid hv
    clear hv h1 h2
    rcases hop with hop | hop
    · go_enter Tryz.func15, Tryz.ntmps15
      go_wp2_with fail
      go_ret2
      exact ⟨⟨_, by rw [Hv.out]; rfl, CombRes.err (by rw [Hv.out]; decide)⟩, hf⟩
    · have hop2 : ¬ op < 0 := by omega
      go_enter Tryz.func15, Tryz.ntmps15
      go_wp2_with fail
      go_ret2
      exact ⟨⟨_, by rw [Hv.out]; rfl, CombRes.err (by rw [Hv.out]; decide)⟩, hf⟩
  · have hce : combErr op xs ys = if (spErr xs).2 ≠ 0 then (spErr xs).2 else (spErr ys).2 := by unfold combErr; rw [if_neg hop]
    have hop1 : ¬ op < 0 := by omega
    have hop2 : ¬ 3 ≤ op := by omega
    have hfa := hf.alloc (.cells #[.slice A1 xs.length c1, .slice A2 ys.length c2] 34)
    have hck1 := CheckSpans_any xs A1 c1 _ (h1.keep (hfa.2.mono hB)) (Nat.le_trans hB hfa.2.size) (by omega)
    have k1 : (w.alloc (.cells #[.slice A1 xs.length c1, .slice A2 ys.length c2] 34)).cell? ⟨w.heap.size, 1, none⟩ = some (.slice A2 ys.length c2) := cell_new w _ _ 1
    have H1 := Lib.hid h1; have H2 := Lib.hid h2; have Hck1 := Lib.hid hck1
    have hwl : w.heap.size < (w.alloc (.cells #[.slice A1 xs.length c1, .slice A2 ys.length c2] 34)).heap.size := by simp
    clear h1 h2 hck1 hop
    go_enter Tryz.func15, Tryz.ntmps15
    go_wp2_with fail
    refine wp_loop_rounds 3 ?_
    rw [rounds_succ]
    by_cases he1 : (spErr xs).2 = 0
    · obtain ⟨hl1, hok1⟩ := spErr_ok he1
      rw [if_neg (by simpa using he1)] at hce
      have Hce := Lib.hid hce; have Hok1 := Lib.hid hok1
      rw [he1] at Hck1
      clear hok1 he1 hce
      generalize (spErr xs).1 = i1 at *
      go_wp2_with fail
      refine (Hck1.out).mono ?_
      rintro e w1 ⟨rfl, hf1⟩
      have k2 : w1.cell? ⟨w.heap.size, 1, none⟩ = some (.slice A2 ys.length c2) := (hf1.cell (p := ⟨w.heap.size, 1, none⟩) hwl).trans k1
      have hf01 := hfa.trans hf1
      have hck2 := CheckSpans_any ys A2 c2 w1 (H2.out.keep (hf01.2.mono hB)) (Nat.le_trans hB hf01.2.size) (by omega)
      have Hck2 := Lib.hid hck2
      clear hck2
      go_wp2_with fail
      rw [rounds_succ]
      by_cases he2 : (spErr ys).2 = 0
      · obtain ⟨hl2, hok2⟩ := spErr_ok he2
        have hc0 : combErr op xs ys = 0 := by rw [Hce.out, he2]
        have hE : combE op xs ys = if 40 < (combineL op xs ys).length then 2 else 0 := by unfold combE; rw [if_neg (by simpa using hc0)]
        have HE := Lib.hid hE; have Hok2 := Lib.hid hok2
        rw [he2] at Hck2
        clear hok2 he2 hE hc0
        generalize (spErr ys).1 = i2 at *
        go_wp2_with fail
        refine (Hck2.out).mono ?_
        rintro e w2 ⟨rfl, hf2⟩
        have hf02 := hf01.trans hf2
        have hcb := combined_any op xs ys A1 A2 c1 c2 w2 (H1.out.keep (hf02.2.mono hB)) (H2.out.keep (hf02.2.mono hB)) h10 h20 (Nat.le_trans hB hf02.2.size) hm1 hm2 Hok1.out Hok2.out
        have Hcb := Lib.hid hcb
        clear hcb h10 h20
        go_wp2_with fail
        rw [rounds_succ]
        go_wp2_with fail
        refine (Hcb.out).mono ?_
        rintro e w3 ⟨⟨v3, rfl, hown3⟩, hf3⟩
        obtain ⟨p3, c3, rfl⟩ := own_len hown3
        have Hown3 := Lib.hid hown3
        clear hown3
        by_cases hbig : 40 < (combineL op xs ys).length
        · have hv : combE op xs ys = 2 := by rw [HE.out, if_pos hbig]
          have Hv := Lib.hid hv
          have hbI : (40 : Int) < (combineL op xs ys).length := by omega
          clear hv
          generalize (combineL op xs ys).length = n at *
          go_wp2_with fail
          go_ret2
          exact ⟨⟨_, by rw [Hv.out]; rfl, CombRes.err (by rw [Hv.out]; decide)⟩, hf02.trans hf3⟩
        · have hv : combE op xs ys = 0 := by rw [HE.out, if_neg hbig]
          have Hv := Lib.hid hv
          have hbI : ¬ (40 : Int) < (combineL op xs ys).length := by omega
          have Hr : Hid (CombRes w3 w.heap.size op xs ys (.slice p3 (combineL op xs ys).length c3)) := ⟨fun h => absurd hv h, fun _ => Hown3.out.base hf02.2.size⟩
          clear hv Hown3
          generalize (combineL op xs ys).length = n at *
          go_wp2_with fail
          go_ret2
          exact ⟨⟨_, by rw [Hv.out]; rfl, Hr.out⟩, hf02.trans hf3⟩
      · have hv : combE op xs ys = (spErr ys).2 := by
          have h : combErr op xs ys = (spErr ys).2 := Hce.out
          unfold combE; rw [h, if_pos he2]
        have hne : combE op xs ys ≠ 0 := by rw [hv]; exact he2
        have hb : ((spErr ys).2 != 0) = true := by simpa using he2
        have Hv := Lib.hid hv; have Hne := Lib.hid hne
        clear hv hne
        generalize (spErr ys).1 = i2 at *
        generalize (spErr ys).2 = e2 at *
        go_wp2_with fail
        refine (Hck2.out).mono ?_
        rintro e w2 ⟨rfl, hf2⟩
        go_wp2_with fail
        go_ret2
        exact ⟨⟨_, by rw [Hv.out]; rfl, CombRes.err Hne.out⟩, hf01.trans hf2⟩
    · have hv : combE op xs ys = (spErr xs).2 := by
        have h : combErr op xs ys = (spErr xs).2 := by rw [hce, if_pos he1]
        unfold combE; rw [h, if_pos he1]
      have hne : combE op xs ys ≠ 0 := by rw [hv]; exact he1
      have hb : ((spErr xs).2 != 0) = true := by simpa using he1
      have Hv := Lib.hid hv; have Hne := Lib.hid hne
      clear hv hne hce
      generalize (spErr xs).1 = i1 at *
      generalize (spErr xs).2 = e1 at *
      go_wp2_with fail
      refine (Hck1.out).mono ?_
      rintro e w1 ⟨rfl, hf1⟩
      go_wp2_with fail
      go_ret2
      exact ⟨⟨_, by rw [Hv.out]; rfl, CombRes.err Hne.out⟩, hfa.trans hf1⟩
end Go.Proofs.YtgdedcdjfljcnaaGreatDoor
