/- The contract on constraints that are one tree: isTree. Whether the root of a constraint is a marker: IsMarked. -/
import Derived.Test.YtgdedcdjfljcnaaGreatDoorM09
import Derived.Test.YtgdedcdjfljcnaaGreatDoorShelf
namespace Go.Proofs.YtgdedcdjfljcnaaGreatDoor
open Go.RowKit

/-- The nodes are one tree: behind some of them these have no node above them yet. -/
def treeGo : List LN → Int → List Int → Bool
  | [], _, roots => decide (roots.length ≤ 1)
  | x :: t, i, roots => if nodeB x = true ∧ x.args.length ≤ roots.length ∧ roots.drop (roots.length - x.args.length) = x.args then treeGo t (i + 1) (roots.take (roots.length - x.args.length) ++ [i]) else false
def treeB (l : List LN) : Bool := if 20 < l.length then false else treeGo l 0 []
theorem own_take {w : World} {base : Nat} {e : TypeId} {size n g cap k : Nat} {xs : List Value} (h : w.ownsRow base e size (.slice (some ⟨g, 0, none⟩) n cap) n xs) (hk : k ≤ n) :
    w.ownsRow base e size (.slice (some ⟨g, 0, none⟩) k cap) k (xs.take (k * size)) := by
  obtain ⟨hl, h⟩ := h
  have hle : k * size ≤ n * size := Nat.mul_le_mul_right _ hk
  rcases h with ⟨h1, -⟩ | ⟨g', cap', cur, hv, hb, hh, h1, h2, h3, h4⟩
  · cases h1
  · cases hv
    refine ⟨by rw [List.length_take, hl]; omega, .inr ⟨g, cap, cur, rfl, hb, hh, by omega, h2, h3, ?_⟩⟩
    rw [← h4, List.take_take, Nat.min_eq_left hle]
theorem tree_no {l : List LN} {m : Nat} {x : LN} {i : Int} {roots : List Int} (hx : l[m]? = some x) (h : ¬ (nodeB x = true ∧ x.args.length ≤ roots.length ∧ roots.drop (roots.length - x.args.length) = x.args)) : treeGo (l.drop m) i roots = false := by
  obtain ⟨hm, e⟩ := List.getElem?_eq_some_iff.1 hx
  rw [List.drop_eq_getElem_cons hm, e, treeGo, if_neg h]
theorem tree_step {l : List LN} {m : Nat} {x : LN} {i : Int} {R S : List Int} (hx : l[m]? = some x) (hn : nodeB x = true) (h : S = x.args) : treeGo (l.drop m) i (R ++ S) = treeGo (l.drop (m + 1)) (i + 1) (R ++ [i]) := by
  obtain ⟨hm, e⟩ := List.getElem?_eq_some_iff.1 hx
  have hl : (R ++ S).length - x.args.length = R.length := by rw [List.length_append, h]; omega
  rw [List.drop_eq_getElem_cons hm, e, treeGo, if_pos ⟨hn, by rw [List.length_append, h]; omega, by rw [hl, List.drop_left, h]⟩, hl, List.take_left]
theorem tree_diff {R S : List Int} {x : LN} (hl : S.length = x.args.length) (h : S ≠ x.args) : ¬ (nodeB x = true ∧ x.args.length ≤ (R ++ S).length ∧ (R ++ S).drop ((R ++ S).length - x.args.length) = x.args) := by
  rintro ⟨-, -, h3⟩
  rw [List.length_append, hl, Nat.add_sub_cancel, List.drop_left] at h3
  exact h h3
theorem getD_get {l : List Int} {j : Nat} (h : j < l.length) : l[j]? = some (l.getD j 0) := by rw [List.getElem?_eq_getElem h, List.getD_eq_getElem?_getD, List.getElem?_eq_getElem h]; rfl

set_option maxRecDepth 100000 in
set_option maxHeartbeats 2000000 in
theorem isTree_any {B : Nat} (l : List LN) (A : Option Addr) (ca : Nat) (w : World) (h : LimAt B w A l) (hB : B ≤ w.heap.size) (hm : l.length ≤ maxLen) (ha : ∀ x ∈ l, x.args.length ≤ 100000) :
    Calls Tryz.prog 188 #[.slice A l.length ca] w fun e w' => e = .returned (.bool (treeB l)) ∧ Fr w.heap.size w w' := by
  have hm' : l.length ≤ 9223372036854775807 := hm
  have H := Lib.hid h; have Ha := Lib.hid ha
  have hf := Fr.self w
  obtain ⟨j0, hj0, hy0, hy1, hy2⟩ := info_parts int_info
  clear h hm ha
  by_cases hbig : 20 < l.length
  · have hv : treeB l = false := by unfold treeB; rw [if_pos hbig]
    have Hv := Lib.hid hv
    have hbI : (20 : Int) < l.length := by omega
    clear hv
    go_enter Tryz.func188, Tryz.ntmps188
    go_wp2_with fail
    go_ret
    exact ⟨by rw [Hv.out]; rfl, hf⟩
  have hv : treeB l = treeGo l 0 [] := by unfold treeB; rw [if_neg hbig]
  have hbI : ¬ ((20 : Int) < l.length) := by omega
  generalize treeB l = r at *
  have Hv : Hid (r = treeGo (l.drop 0) ((0 : Nat) : Int) []) := hv
  clear hv
  go_enter Tryz.func188, Tryz.ntmps188
  go_wp2_with fail
  go_loopw [3, 12] (fun v i wr => ∃ (m : Nat) (roots : List Int), m ≤ l.length ∧ i = .int .i64 m ∧ Hid (wr.ownsRow w.heap.size 3 1 v roots.length (intCells roots)) ∧ Hid (r = treeGo (l.drop m) (m : Int) roots) ∧ roots.length ≤ m ∧ Fr w.heap.size w wr) (fun _ i _ => l.length - (intOf i).toNat)
  case atStart => exact ⟨0, [], by omega, by go_num, World.ownsRow_nil w _ _ _, Hv, by simp, hf⟩
  case round =>
    obtain ⟨m, roots, hml, rfl, HO, HR, hrl, hfr⟩ := hrel
    by_cases hlt : m < l.length
    · obtain ⟨x, hx⟩ : ∃ x, l[m]? = some x := ⟨_, List.getElem?_eq_getElem hlt⟩
      have hLw := H.out.keep (w' := wr) (hfr.2.mono hB)
      obtain ⟨b, off, rfl, -⟩ := hLw.addr hx
      obtain ⟨hbB, A2, ca2, hrep, k0, k1, k2, k3, k4⟩ := hLw.item hx
      have hxa := Ha.out x (List.mem_of_getElem? hx)
      have hmn : (0 : Int) ≤ m := by omega
      have hmm : (m : Int) < l.length := by omega
      have hbw : b < wr.heap.size := Nat.lt_of_lt_of_le hbB (Nat.le_trans hB hfr.2.size)
      have hno := fun h => HR.out.trans (tree_no (roots := roots) (i := (m : Int)) hx h)
      have hst := fun (R S : List Int) (h1 : nodeB x = true) (h2 : S = x.args) (h3 : R ++ S = roots) => HR.out.trans (h3 ▸ tree_step (R := R) (S := S) (i := (m : Int)) hx h1 h2)
      have Hno := Lib.hid hno; have Hst := Lib.hid hst
      have Hnd := Lib.hid (fun W => isLimitNode_any x A2 ca2 W hxa)
      have Hrep := Lib.hid hrep
      clear hx hno hst hrep hLw
      obtain ⟨k, lo, hi, t, args⟩ := x
      simp only [LN.cells] at *
      have hargI : (args.length : Int) ≤ 100000 := by omega
      cases hnd : nodeB ⟨k, lo, hi, t, args⟩ with
      | false =>
        rw [hnd] at Hnd
        have Hfin := Lib.hid (Hno.out (by rw [hnd]; rintro ⟨h, -⟩; cases h))
        obtain ⟨p, cap, hu⟩ := own_len HO.out
        subst hu
        clear hnd
        go_wp2_with fail
        refine (Hnd.out _).mono ?_
        rintro e w2 ⟨rfl, hf2⟩
        go_wp2_with fail
        go_ret
        exact ⟨by rw [Hfin.out]; rfl, (hfr.alloc _).trans hf2⟩
      | true =>
        rw [hnd] at Hnd
        by_cases hal : args.length ≤ roots.length
        · obtain ⟨R, S, rfl, hS⟩ : ∃ R S, roots = R ++ S ∧ S.length = args.length :=
            ⟨roots.take (roots.length - args.length), roots.drop (roots.length - args.length), (List.take_append_drop _ _).symm, by rw [List.length_drop]; omega⟩
          have hRl : (R.length : Int) ≤ 20 := by rw [List.length_append] at hrl; omega
          have hR0 : (0 : Int) ≤ R.length := by omega
          have ha0 : (0 : Int) ≤ args.length := by omega
          have hrl2 : R.length ≤ m := by rw [List.length_append] at hrl; omega
          clear hal hrl
          rcases own_cases HO.out with ⟨rfl, hn0, -⟩ | ⟨g, cap, rfl, hg0, hg, hcap, hcl⟩
          · have hR00 : R.length = 0 := by rw [List.length_append] at hn0; omega
            have ha00 : args.length = 0 := by rw [List.length_append] at hn0; omega
            obtain rfl : R = [] := List.eq_nil_of_length_eq_zero hR00
            obtain rfl : args = [] := List.eq_nil_of_length_eq_zero ha00
            obtain rfl : S = [] := List.eq_nil_of_length_eq_zero (by simpa using hS)
            have Hgo := Lib.hid (Hst.out [] [] hnd rfl rfl)
            have Heq := Lib.hid (fun a2 c2 W => Tryz.slices_Equal_int_empty none a2 0 0 c2 W (by omega))
            have Hon := Lib.hid (fun W => World.ownsRow_nil W w.heap.size 3 1)
            clear hnd hn0 hR00 ha00 hS Hst Hno
            go_wp2_with fail
            refine (Hnd.out _).mono ?_
            rintro e w2 ⟨rfl, hf2⟩
            have n4 : w2.cell? ⟨wr.heap.size, 4, none⟩ = some (.slice A2 0 ca2) := (hf2.cell (p := ⟨wr.heap.size, 4, none⟩) (by simp)).trans (cell_new wr _ _ 4)
            have hfw2 := (hfr.alloc _).trans hf2
            go_wp2_with fail
            go_quiet ((go_at_call 206; exact (Heq.out _ _ _).mono fun e w' h => ⟨h.1, _, h.2⟩))
            have hnews : ∀ ad, some (⟨w2.heap.size, 0, none⟩ : Addr) = some ad → ∀ j u, (intCells [(m : Int)])[j]? = some u → ((w2.drewN nq).alloc (.cells #[.int .i64 (m : Int)] 3)).cell? (ad.add j) = some u := fun ad h j u hu => by
              injection h with h
              subst h
              exact cells_new (w2.drewN nq) _ _ j u hu
            have Hnews := Lib.hid hnews
            have Ho1 := Lib.hid (intCells_one [(m : Int)])
            have hsz2 : w.heap.size ≤ w2.heap.size := (hfw2).2.size
            clear hnews
            go_wp2_with (at_builtin; refine wpList_append_opt rfl _ _ 64 rfl w.heap.size 3 j0 _ 1 8 Tryz.underlying64 hj0 hy0 hy1 hy2 rfl (by decide) _ _ _ rfl (((Hon.out w2).drewN nq).alloc _) (some ⟨w2.heap.size, 0, none⟩) 1 1 (intCells [(m : Int)]) rfl (fun h => by cases h) rfl Hnews.out Ho1.out ?d3 ?d4 ?d5 ?_)
            case d3 => unfold maxLen; omega
            case d4 => omega
            case d5 => simp; omega
            intro v4 w4 hown4 hg4 _
            have hf4 : Fr w.heap.size w w4 := ((hfw2.drewN nq).alloc _).grown hg4 (fun g hg => (own_lt (Hon.out w2) hg).1)
            have Hown4 : Hid (w4.ownsRow w.heap.size 3 1 v4 ([] ++ [(m : Int)]).length (intCells ([] ++ [(m : Int)]))) := by
              have hn : ([] ++ [(m : Int)]).length = 0 + 1 := by simp
              rw [hn, intCells_append]
              exact hown4
            clear hown4 hg4
            go_wp2_with fail
            go_roundw
            case rel => exact ⟨m + 1, [] ++ [(m : Int)], by omega, by go_num, Hown4.out, by rw [Int.natCast_add]; exact Hgo.out, by simp <;> omega, hf4⟩
            case measure => simp [intOf] <;> omega
          · have hoo := HO.out
            have hn : (R ++ S).length = R.length + args.length := by rw [List.length_append, hS]
            rw [hn] at hoo hcap
            have Hoo := Lib.hid hoo
            have Hcl := Lib.hid hcl
            clear hoo hcl
            go_wp2_with fail
            refine (Hnd.out _).mono ?_
            rintro e w2 ⟨rfl, hf2⟩
            have n4 : w2.cell? ⟨wr.heap.size, 4, none⟩ = some (.slice A2 args.length ca2) := (hf2.cell (p := ⟨wr.heap.size, 4, none⟩) (by simp)).trans (cell_new wr _ _ 4)
            have hfw2 := (hfr.alloc _).trans hf2
            have hoo2 : w2.ownsRow w.heap.size 3 1 (.slice (some ⟨g, 0, none⟩) R.length cap) R.length (intCells R) := by
              have h := own_take (own_below (Hoo.out.alloc _) hf2.2) (k := R.length) (by omega)
              rw [Nat.mul_one, intCells_append, ← intCells_length R, List.take_left] at h
              rwa [intCells_length] at h
            have Hoo2 := Lib.hid hoo2
            have hRle : (R.length : Int) ≤ cap := by omega
            have hRle2 : (R.length : Int) ≤ (R.length : Int) + args.length := by omega
            clear hoo2
            by_cases ha00 : args.length = 0
            · obtain rfl : args = [] := List.eq_nil_of_length_eq_zero ha00
              obtain rfl : S = [] := List.eq_nil_of_length_eq_zero (by simpa using hS)
              have Hgo := Lib.hid (Hst.out R [] hnd rfl rfl)
              have Heq := Lib.hid (fun a1 c1 a2 c2 W => Tryz.slices_Equal_int_empty a1 a2 c1 0 c2 W (by omega))
              clear hnd ha00 hS Hst Hno
              by_cases hck : cap = R.length
              · subst hck
                go_wp2_with fail
                go_quiet ((go_at_call 206; exact (Heq.out _ _ _ _ _).mono fun e w' h => ⟨h.1, _, h.2⟩))
                have hnews : ∀ ad, some (⟨w2.heap.size, 0, none⟩ : Addr) = some ad → ∀ j u, (intCells [(m : Int)])[j]? = some u → ((w2.drewN nq).alloc (.cells #[.int .i64 (m : Int)] 3)).cell? (ad.add j) = some u := fun ad h j u hu => by
                  injection h with h
                  subst h
                  exact cells_new (w2.drewN nq) _ _ j u hu
                have Hnews := Lib.hid hnews
                have Ho1 := Lib.hid (intCells_one [(m : Int)])
                have hsz2 : w.heap.size ≤ w2.heap.size := (hfw2).2.size
                clear hnews
                go_wp2_with (at_builtin; refine wpList_append_opt rfl _ _ 64 rfl w.heap.size 3 j0 _ 1 8 Tryz.underlying64 hj0 hy0 hy1 hy2 rfl (by decide) _ _ _ rfl (((Hoo2.out).drewN nq).alloc _) (some ⟨w2.heap.size, 0, none⟩) 1 1 (intCells [(m : Int)]) rfl (fun h => by cases h) rfl Hnews.out Ho1.out ?d3 ?d4 ?d5 ?_)
                case d3 => unfold maxLen; omega
                case d4 => omega
                case d5 => simp; omega
                intro v4 w4 hown4 hg4 _
                have hf4 : Fr w.heap.size w w4 := ((hfw2.drewN nq).alloc _).grown hg4 (fun g hg => (own_lt (Hoo2.out) hg).1)
                have Hown4 : Hid (w4.ownsRow w.heap.size 3 1 v4 (R ++ [(m : Int)]).length (intCells (R ++ [(m : Int)]))) := by
                  have hn : (R ++ [(m : Int)]).length = R.length + 1 := by simp
                  rw [hn, intCells_append]
                  exact hown4
                clear hown4 hg4
                go_wp2_with fail
                go_roundw
                case rel => exact ⟨m + 1, R ++ [(m : Int)], by omega, by go_num, Hown4.out, by rw [Int.natCast_add]; exact Hgo.out, by simp <;> omega, hf4⟩
                case measure => simp [intOf] <;> omega
              · go_wp2_with fail
                go_quiet ((go_at_call 206; exact (Heq.out _ _ _ _ _).mono fun e w' h => ⟨h.1, _, h.2⟩))
                have hnews : ∀ ad, some (⟨w2.heap.size, 0, none⟩ : Addr) = some ad → ∀ j u, (intCells [(m : Int)])[j]? = some u → ((w2.drewN nq).alloc (.cells #[.int .i64 (m : Int)] 3)).cell? (ad.add j) = some u := fun ad h j u hu => by
                  injection h with h
                  subst h
                  exact cells_new (w2.drewN nq) _ _ j u hu
                have Hnews := Lib.hid hnews
                have Ho1 := Lib.hid (intCells_one [(m : Int)])
                have hsz2 : w.heap.size ≤ w2.heap.size := (hfw2).2.size
                clear hnews
                go_wp2_with (at_builtin; refine wpList_append_opt rfl _ _ 64 rfl w.heap.size 3 j0 _ 1 8 Tryz.underlying64 hj0 hy0 hy1 hy2 rfl (by decide) _ _ _ rfl (((Hoo2.out).drewN nq).alloc _) (some ⟨w2.heap.size, 0, none⟩) 1 1 (intCells [(m : Int)]) rfl (fun h => by cases h) rfl Hnews.out Ho1.out ?d3 ?d4 ?d5 ?_)
                case d3 => unfold maxLen; omega
                case d4 => omega
                case d5 => simp; omega
                intro v4 w4 hown4 hg4 _
                have hf4 : Fr w.heap.size w w4 := ((hfw2.drewN nq).alloc _).grown hg4 (fun g hg => (own_lt (Hoo2.out) hg).1)
                have Hown4 : Hid (w4.ownsRow w.heap.size 3 1 v4 (R ++ [(m : Int)]).length (intCells (R ++ [(m : Int)]))) := by
                  have hn : (R ++ [(m : Int)]).length = R.length + 1 := by simp
                  rw [hn, intCells_append]
                  exact hown4
                clear hown4 hg4
                go_wp2_with fail
                go_roundw
                case rel => exact ⟨m + 1, R ++ [(m : Int)], by omega, by go_num, Hown4.out, by rw [Int.natCast_add]; exact Hgo.out, by simp <;> omega, hf4⟩
                case measure => simp [intOf] <;> omega
            · have hck : ¬ cap = R.length := by omega
              have hck2 : (R.length : Int) < cap := by omega
              obtain ⟨b2, off2, rfl, hb2, hcl2⟩ := Hrep.out.args.resolve_left (fun h => ha00 (by have h' : args = [] := h; rw [h']; rfl))
              have hb2w : b2 < wr.heap.size := Nat.lt_of_lt_of_le hb2 (Nat.le_trans hB hfr.2.size)
              have hfw := ((Fr.self wr).alloc (.cells #[.int .i64 k, .int .i64 lo, .int .i64 hi, .string ⟨t.toArray⟩, .slice (some ⟨b2, off2, none⟩) args.length ca2] 66)).trans hf2
              have Heq := Lib.hid (fun q => Tryz.slices_Equal_int g R.length args.length (cap - R.length) b2 off2 args.length ca2 S args (w2.drewN q) (by omega) (by omega) (by omega) (by omega)
                (fun j hj => (hfw.cell (p := ⟨g, R.length + j, none⟩) hg).trans (Hcl.out _ _ (intCells_at (by rw [List.getElem?_append_right (by omega), Nat.add_sub_cancel_left]; exact getD_get hj))))
                (fun j hj => (hfw.cell (p := ⟨b2, off2 + j, none⟩) hb2w).trans (hcl2 j _ (getD_get hj))))
              have hbe : (S.take args.length == args.take args.length) = decide (S = args) := by
                rw [List.take_of_length_le (by omega), List.take_of_length_le (Nat.le_refl _), Bool.eq_iff_iff]; simp
              rw [hbe] at Heq
              clear hcl2 hbe hfw
              by_cases hsa : S = args
              · have Hgo := Lib.hid (Hst.out R S hnd hsa rfl)
                rw [decide_eq_true hsa] at Heq
                clear hnd ha00 hS Hst Hno hsa
                go_wp2_with fail
                go_quiet ((go_at_call 206; exact (Heq.out _).mono fun e w' h => ⟨h.1, by obtain ⟨q, hq⟩ := h.2; exact ⟨_, by rw [hq, World.drewN_drewN]⟩⟩))
                have hnews : ∀ ad, some (⟨w2.heap.size, 0, none⟩ : Addr) = some ad → ∀ j u, (intCells [(m : Int)])[j]? = some u → ((w2.drewN nq).alloc (.cells #[.int .i64 (m : Int)] 3)).cell? (ad.add j) = some u := fun ad h j u hu => by
                  injection h with h
                  subst h
                  exact cells_new (w2.drewN nq) _ _ j u hu
                have Hnews := Lib.hid hnews
                have Ho1 := Lib.hid (intCells_one [(m : Int)])
                have hsz2 : w.heap.size ≤ w2.heap.size := (hfw2).2.size
                clear hnews
                go_wp2_with (at_builtin; refine wpList_append_opt rfl _ _ 64 rfl w.heap.size 3 j0 _ 1 8 Tryz.underlying64 hj0 hy0 hy1 hy2 rfl (by decide) _ _ _ rfl (((Hoo2.out).drewN nq).alloc _) (some ⟨w2.heap.size, 0, none⟩) 1 1 (intCells [(m : Int)]) rfl (fun h => by cases h) rfl Hnews.out Ho1.out ?d3 ?d4 ?d5 ?_)
                case d3 => unfold maxLen; omega
                case d4 => omega
                case d5 => simp; omega
                intro v4 w4 hown4 hg4 _
                have hf4 : Fr w.heap.size w w4 := ((hfw2.drewN nq).alloc _).grown hg4 (fun g hg => (own_lt (Hoo2.out) hg).1)
                have Hown4 : Hid (w4.ownsRow w.heap.size 3 1 v4 (R ++ [(m : Int)]).length (intCells (R ++ [(m : Int)]))) := by
                  have hn : (R ++ [(m : Int)]).length = R.length + 1 := by simp
                  rw [hn, intCells_append]
                  exact hown4
                clear hown4 hg4
                go_wp2_with fail
                go_roundw
                case rel => exact ⟨m + 1, R ++ [(m : Int)], by omega, by go_num, Hown4.out, by rw [Int.natCast_add]; exact Hgo.out, by simp <;> omega, hf4⟩
                case measure => simp [intOf] <;> omega
              · have Hfin := Lib.hid (Hno.out (tree_diff (x := ⟨k, lo, hi, t, args⟩) hS hsa))
                rw [decide_eq_false hsa] at Heq
                clear hnd ha00 hS Hst Hno hsa
                go_wp2_with fail
                go_quiet ((go_at_call 206; exact (Heq.out _).mono fun e w' h => ⟨h.1, by obtain ⟨q, hq⟩ := h.2; exact ⟨_, by rw [hq, World.drewN_drewN]⟩⟩))
                go_wp2_with fail
                go_ret
                exact ⟨by rw [Hfin.out]; rfl, hfw2.drewN _⟩
        · have Hfin := Lib.hid (Hno.out (by rintro ⟨-, h, -⟩; exact hal h))
          have hal2 : (roots.length : Int) < args.length := by omega
          obtain ⟨p, cap, hu⟩ := own_len HO.out
          subst hu
          clear hnd
          go_wp2_with fail
          refine (Hnd.out _).mono ?_
          rintro e w2 ⟨rfl, hf2⟩
          have n4 : w2.cell? ⟨wr.heap.size, 4, none⟩ = some (.slice A2 args.length ca2) := (hf2.cell (p := ⟨wr.heap.size, 4, none⟩) (by simp)).trans (cell_new wr _ _ 4)
          go_wp2_with fail
          go_ret
          exact ⟨by rw [Hfin.out]; rfl, (hfr.alloc _).trans hf2⟩
    · have hfin := HR.out
      rw [List.drop_eq_nil_of_le (by omega), treeGo] at hfin
      have Hfin := Lib.hid hfin
      obtain ⟨p, cap, hu⟩ := own_len HO.out
      subst hu
      clear hfin
      go_wp2_with fail
      go_ret
      exact ⟨by rw [Hfin.out]; apply ret_bool; rw [Bool.eq_iff_iff]; simp <;> omega, hfr⟩
end Go.Proofs.YtgdedcdjfljcnaaGreatDoor
namespace Go.Proofs.YtgdedcdjfljcnaaGreatDoor
open Go.RowKit

theorem rIsMarked {B : Nat} (l : List LN) (x : LN) (A : Option Addr) (ca : Nat) (w : World) (h : LimAt B w A l) (hx : l[l.length - 1]? = some x) (hm : l.length ≤ 1000) :
    Calls Tryz.prog 8 #[.slice A l.length ca] w fun e w' => e = .returned (.bool (x.kind == 7)) ∧ w = w' := by
  obtain ⟨b, off, rfl, -⟩ := h.addr hx
  obtain ⟨-, A2, ca2, -, k0, k1, k2, k3, k4⟩ := h.item hx
  have hpos : 0 < l.length := by
    have := (List.getElem?_eq_some_iff.1 hx).1
    omega
  obtain ⟨n, hn⟩ : ∃ n, l.length = n + 1 := ⟨l.length - 1, by omega⟩
  rw [hn, Nat.add_sub_cancel] at k0
  have hn' : n + 1 ≤ 1000 := by omega
  rw [hn]
  clear h hx k1 k2 k3 k4 hn hpos hm
  go_enter Tryz.func8, Tryz.ntmps8
  go_wp2_with fail
  all_goals
    go_ret
    exact ⟨by simp_all, rfl⟩
end Go.Proofs.YtgdedcdjfljcnaaGreatDoor
