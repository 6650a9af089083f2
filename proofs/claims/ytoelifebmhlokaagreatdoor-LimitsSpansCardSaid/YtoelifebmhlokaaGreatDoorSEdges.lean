/- The contract on the reference's edges. -/
import Derived.Test.YtoelifebmhlokaaGreatDoorSStep
namespace Go.Proofs.YtoelifebmhlokaaGreatDoor
open Go.RowKit

/-- The numbers at which spans begin, or are over, put among others. -/
def edge1 (q : Nat) (out : List Int) (s : Sp) : List Int := if q = 0 then out else if q = 1 then insI s.lo out else insI (s.hi + 1) (insI s.lo out)
def edgesL (l : List Sp) : List Int := l.foldl (edge1 2) []
theorem edgesL_take {l : List Sp} {k : Nat} {s : Sp} (h : l[k]? = some s) : edgesL (l.take (k + 1)) = edge1 2 (edgesL (l.take k)) s := by
  unfold edgesL
  rw [List.take_add_one, h, List.foldl_append]; rfl
theorem edge1_length (out : List Int) (s : Sp) (q : Nat) : (edge1 q out s).length ≤ out.length + 2 := by
  unfold edge1
  split
  · omega
  · split
    · have := insI_length s.lo out; omega
    · have := insI_length s.lo out; have := insI_length (s.hi + 1) (insI s.lo out); omega
theorem edgesL_length (l : List Sp) (k : Nat) : (edgesL (l.take k)).length ≤ 2 * k := by
  induction k with
  | zero => simp [edgesL]
  | succ k ih =>
    cases h : l[k]? with
    | none => rw [List.take_add_one, h]; simp; omega
    | some s => rw [edgesL_take h]; have := edge1_length (edgesL (l.take k)) s 2; omega
theorem posI_drop_nil {n : Int} {l : List Int} {k : Nat} (h : posI n l = posI n (l.drop k) + k) (hk : l.length ≤ k) : posI n l = k := by
  rw [h, List.drop_eq_nil_of_le hk, posI]; omega
theorem posI_drop_cons {n y : Int} {l t : List Int} {k : Nat} (h : posI n l = posI n (l.drop k) + k) (hd : l.drop k = y :: t) (hy : ¬ y < n) : posI n l = k := by
  rw [h, hd, posI, if_neg hy]; omega
theorem posI_drop_next {n y : Int} {l t : List Int} {k : Nat} (h : posI n l = posI n (l.drop k) + k) (hd : l.drop k = y :: t) (hy : y < n) : posI n l = posI n (l.drop (k + 1)) + (k + 1) := by
  have h2 : l.drop (k + 1) = t := by
    have : (l.drop k).drop 1 = l.drop (k + 1) := by rw [List.drop_drop]
    rw [← this, hd]; rfl
  rw [h, hd, posI, if_pos hy, h2]; omega
theorem drop_cons_get {l t : List Int} {k : Nat} {y : Int} (h : l.drop k = y :: t) : l[k]? = some y := by
  have : (l.drop k)[0]? = some y := by rw [h]; rfl
  rwa [List.getElem?_drop, Nat.add_zero] at this
theorem insI_at {n : Int} {l : List Int} {k : Nat} (h : posI n l = k) (hne : l[k]? ≠ some n) : insI n l = l.take k ++ n :: l.drop k := by
  unfold insI; rw [h, if_neg hne]
theorem insI_same {n : Int} {l : List Int} {k : Nat} (h : posI n l = k) (he : l[k]? = some n) : insI n l = l := by
  unfold insI; rw [h, if_pos he]
theorem sp_add (b off j : Nat) : (({ block := b, off := off, spot := none } : Addr).add j) = ⟨b, off + j, none⟩ := by
  unfold Addr.add
  by_cases hj : j = 0 <;> simp [hj]
theorem own_news {w : World} {base : Nat} {e : TypeId} {size n g cap : Nat} {xs : List Value} (h : w.ownsRow base e size (.slice (some ⟨g, 0, none⟩) n cap) n xs) : ∀ j u, xs[j]? = some u → w.cell? (({ block := g, off := 0 } : Addr).add j) = some u := by
  intro j u hu
  rcases own_cases h with ⟨h1, -, -⟩ | ⟨g', cap', h1, -, -, -, hc⟩
  · cases h1
  · injection h1 with h1 h2 h3
    injection h1 with h1
    injection h1 with h1
    subst h1
    rw [add_at]; exact hc j u hu
theorem SpAt.empty {B : Nat} {w : World} {A : Option Addr} {l : List Sp} (h : SpAt B w A l) (hA : A = none) : l.length = 0 := by
  rcases h with rfl | ⟨b, off, h2, -⟩
  · rfl
  · rw [hA] at h2; cases h2
theorem SpAt.news {B : Nat} {w w' : World} {A : Option Addr} {l : List Sp} (h : SpAt B w A l) (hf : Below B w w') : ∀ ad, A = some ad → ∀ j u, (spCells l)[j]? = some u → w'.cell? (ad.add j) = some u := by
  intro ad hA j u hu
  rcases h with rfl | ⟨b, off, hA2, hb, hc⟩
  · simp [spCells] at hu
  · rw [hA] at hA2
    injection hA2 with hA2
    subst hA2
    rw [sp_add]
    exact (hf.cell (p := ⟨b, off + j, none⟩) hb).trans (hc j u hu)
theorem SpAt.of {w : World} {base n : Nat} {v : Value} {l : List Sp} (h : w.ownsRow base 53 2 v n (spCells l)) : ∃ A ca, v = .slice A l.length ca ∧ (A = none → ca = 0) ∧ SpAt w.heap.size w A l ∧ l.length = n ∧ (∀ ad, A = some ad → base ≤ ad.block) := by
  have hn : l.length = n := by have := h.1; rw [spCells_length] at this; omega
  rcases own_cases h with ⟨rfl, h0, h1⟩ | ⟨g, cap, rfl, hb, hlt, hle, hc⟩
  · have : l = [] := List.eq_nil_of_length_eq_zero (by omega)
    subst this
    exact ⟨none, 0, rfl, fun _ => rfl, .inl rfl, hn, fun ad h => by cases h⟩
  · refine ⟨_, cap, by rw [hn], fun h => (by cases h), .inr ⟨g, 0, rfl, hlt, fun j u hu => ?_⟩, hn, fun ad h => by injection h with h; subst h; exact hb⟩
    rw [Nat.zero_add]; exact hc j u hu

set_option maxRecDepth 100000 in
set_option maxHeartbeats 4000000 in
theorem rEdges_any {B : Nat} (xs ys : List Sp) (A1 A2 : Option Addr) (c1 c2 : Nat) (w : World) (h1 : SpAt B w A1 xs) (h2 : SpAt B w A2 ys) (h10 : A1 = none → c1 = 0) (h20 : A2 = none → c2 = 0) (hB : B ≤ w.heap.size) (hm1 : xs.length ≤ 100) (hm2 : ys.length ≤ 100)
    (hok1 : ∀ s ∈ xs, okB s = true) (hok2 : ∀ s ∈ ys, okB s = true) :
    Calls Tryz.prog 21 #[.slice A1 xs.length c1, .slice A2 ys.length c2] w fun e w' => (∃ v, e = .returned v ∧ IntRow w' v (edgesL (xs ++ ys))) ∧ Fr w.heap.size w w' := by
  have hf := (Fr.self w).alloc (.cells #[] 53)
  obtain ⟨i0, hi0, hz0, hz1, hz2⟩ := info_parts span_info
  obtain ⟨j0, hj0, hy0, hy1, hy2⟩ := info_parts int_info
  have hown : (w.alloc (.cells #[] 53)).ownsRow w.heap.size 53 2 (.slice (some ⟨w.heap.size, 0, none⟩) 0 0) 0 [] :=
    ⟨rfl, .inr ⟨w.heap.size, 0, #[], rfl, Nat.le_refl _, heap_alloc_new _ _, Nat.le_refl _, by decide, rfl, rfl⟩⟩
  have Hown := Lib.hid hown
  have Hn1 := Lib.hid (h1.news (hf.2.mono hB))
  have H2 := Lib.hid h2
  have H10 : Hid (A1 = none → xs.length = 0 ∧ c1 = 0) := fun h => ⟨SpAt.empty h1 h, h10 h⟩
  have H20 : Hid (A2 = none → ys.length = 0 ∧ c2 = 0) := fun h => ⟨SpAt.empty h2 h, h20 h⟩
  have Hl1 := Lib.hid (spCells_length xs); have Hl2 := Lib.hid (spCells_length ys)
  have Ho1 := Lib.hid (spCells_one xs); have Ho2 := Lib.hid (spCells_one ys)
  have Hok : Hid (∀ s ∈ xs ++ ys, okB s = true) := fun s hs => by rcases List.mem_append.1 hs with h | h; exact hok1 s h; exact hok2 s h
  clear h1 h2 h10 h20 hown hok1 hok2
  go_enter Tryz.func21, Tryz.ntmps21
  go_wp2_with (at_builtin; refine wpList_append_opt rfl _ _ 22 rfl w.heap.size 53 i0 _ 2 16 Tryz.underlying22 hi0 hz0 hz1 hz2 rfl (by decide) _ _ _ rfl Hown.out A1 xs.length c1 (spCells xs) rfl H10.out Hl1.out Hn1.out Ho1.out ?d3 ?d4 ?d5 ?_)
  case d3 => unfold maxLen; omega
  case d4 => omega
  case d5 => simp
  intro v3 w3 hown3 hg3 _
  have hf3 : Fr w.heap.size w w3 := hf.grown hg3 (fun g hg => by simp [Value.ownBlock] at hg; omega)
  have Hown3 := Lib.hid hown3
  have Hn2 := Lib.hid (H2.out.news (hf3.2.mono hB))
  have hsz3 := hf3.2.size
  clear hown3 hg3 Hown Hn1 H2
  go_wp2_with (at_builtin; refine wpList_append_opt rfl _ _ 22 rfl w.heap.size 53 i0 _ 2 16 Tryz.underlying22 hi0 hz0 hz1 hz2 rfl (by decide) _ _ _ rfl Hown3.out A2 ys.length c2 (spCells ys) rfl H20.out Hl2.out Hn2.out Ho2.out ?d3 ?d4 ?d5 ?_)
  case d3 => unfold maxLen; omega
  case d4 => omega
  case d5 => exact hsz3
  intro v4 w4 hown4 hg4 _
  have hf4 : Fr w.heap.size w w4 := hf3.grown hg4 (fun g hg => (own_lt Hown3.out hg).1)
  have hall : w4.ownsRow w.heap.size 53 2 v4 (xs.length + ys.length) (spCells (xs ++ ys)) := by rw [spCells_append]; exact hown4
  obtain ⟨A4, c4, rfl, -, hsp4, hlen4, -⟩ := SpAt.of hall
  have hn4 : (xs ++ ys).length ≤ 200 := by rw [List.length_append]; omega
  generalize hl : xs ++ ys = l at *
  have Hl := Lib.hid hl
  clear hl
  have Hsp := Lib.hid hsp4
  clear hown4 hg4 hall Hown3 Hn2 hsp4 hlen4 hsz3 hf3 hf H10 H20 Hl1 Hl2 Ho1 Ho2
  go_wp2_with fail
  go_loopw [5, 7] (fun v i wr => ∃ m : Nat, m ≤ l.length ∧ i = .int .i64 m ∧ Hid (IntRow wr v (edgesL (l.take m))) ∧ Fr w4.heap.size w4 wr) (fun _ i _ => l.length - (intOf i).toNat)
  case atStart => exact ⟨0, by omega, by go_num, .inl ⟨rfl, by simp [edgesL]⟩, Fr.self w4⟩
  case round =>
    obtain ⟨m, hml, rfl, HV, hfr⟩ := hrel
    by_cases hlt : m < l.length
    · obtain ⟨s, hs⟩ : ∃ s, l[m]? = some s := ⟨_, List.getElem?_eq_getElem hlt⟩
      obtain ⟨b, off, rfl, hbB, d0, d1⟩ := (Hsp.out.keep (w' := wr) hfr.2).item hs
      have hmn : (0 : Int) ≤ m := by omega
      have hmm : (m : Int) < l.length := by omega
      have hsok := okB_in (Hok.out s (List.mem_of_getElem? hs))
      have hbw : b < wr.heap.size := Nat.lt_of_lt_of_le hbB hfr.2.size
      have hel := edgesL_length l m
      have Het := Lib.hid (edgesL_take hs)
      clear hs
      generalize edgesL (l.take m) = base at *
      obtain ⟨wo, rfl⟩ : ∃ x, x = wr := ⟨_, rfl⟩
      go_wp2_with fail
      go_loopw [5, 8] (fun v k wq => ∃ (q : Nat) (out : List Int), q ≤ 2 ∧ k = .int .i64 q ∧ Hid (IntRow wq v out) ∧ Hid (out = edge1 q base s) ∧ Fr wo.heap.size wo wq) (fun _ k _ => 2 - (intOf k).toNat)
      case atStart => exact ⟨0, base, by omega, by go_num, HV, rfl, Fr.self wo⟩
      case round =>
        obtain ⟨q, out, hq, rfl, HO, HE, hfq⟩ := hrel
        have e0 : wr.cell? ⟨b, off + m * 2, none⟩ = some (.int .i64 s.lo) := (hfq.cell (p := ⟨b, off + m * 2, none⟩) hbw).trans d0
        have e1 : wr.cell? ⟨b, off + m * 2 + 1, none⟩ = some (.int .i64 s.hi) := (hfq.cell (p := ⟨b, off + m * 2 + 1, none⟩) hbw).trans d1
        have hol : out.length ≤ 402 := by have h := HE.out; subst h; have := edge1_length base s q; omega
        rcases (by omega : q = 0 ∨ q = 1 ∨ q = 2) with rfl | rfl | rfl
        · have Hnx : Hid (insI s.lo out = edge1 1 base s) := by have h := HE.out; subst h; rfl
          clear HE
          rcases HO.out with ⟨rfl, hnil⟩ | ⟨g, cap, rfl, hg, hcap, hpos, hcl⟩
          · subst hnil
            go_wp2_with fail
            refine wp_loop_rounds 1 ?_
            rw [rounds_succ]
            go_wp2_with fail
            have hown1 : (wr.alloc (.cells #[.int .i64 s.lo] 3)).ownsRow wr.heap.size 3 1 (.slice (some ⟨wr.heap.size, 0, none⟩) 1 1) 1 [.int .i64 s.lo] :=
              ⟨rfl, .inr ⟨wr.heap.size, 1, #[.int .i64 s.lo], rfl, Nat.le_refl _, heap_alloc_new _ _, Nat.le_refl _, by decide, rfl, rfl⟩⟩
            have Hown1 := Lib.hid hown1
            clear hown1
            go_region_held3 (fun _ => True) (first | trivial)
              (first
                | (refine step_append_opt (by rfl) _ _ _ (by rfl) wr.heap.size 3 j0 _ 1 8 Tryz.underlying59 hj0 hy0 hy1 hy2 rfl (by omega) _ _ _ (by rfl) Hown1.out.drew
                    none 0 0 [] (by rfl) (fun _ => ⟨rfl, rfl⟩) (by rfl) (fun ad h => by cases h) (by simp) (by omega) (by unfold maxLen; omega) (by omega) (by simp) ?_; intro g5 cap5 w5 hown5 hg5 hb5 hlt5 hc5)
                | (refine step_append_opt (by rfl) _ _ _ (by rfl) wr.heap.size 3 j0 _ 1 8 Tryz.underlying59 hj0 hy0 hy1 hy2 rfl (by omega) _ _ _ (by rfl) (World.ownsRow_nil w5 _ _ _)
                    (some ⟨g5, 0, none⟩) 1 cap5 [.int .i64 s.lo] (by rfl) (fun h => by cases h) (by rfl) (fun ad h => by cases h; exact own_news hown5) (by simp [Value.oneCell']) (by omega) (by unfold maxLen; omega) (by omega) (by have := hg5.size; simp at this; omega) ?_; intro g6 cap6 w6 hown6 hg6 hb6 hlt6 hc6))
            have hfr6 : Fr wr.heap.size wr w6 := (((Fr.self wr).alloc _).drew.grown hg5 (fun g hg => by simp [Value.ownBlock] at hg; omega)).grown hg6 (fun g hg => by simp [Value.ownBlock] at hg)
            have Hrow : Hid (IntRow w6 (.slice (some ⟨g6, 0, none⟩) 1 cap6) [s.lo]) := IntRow.of (n := 0 + 1) (l := [s.lo]) hown6 (by simp)
            have Hnew : Hid ([s.lo] = edge1 1 base s) := by rw [← Hnx.out]; simp [insI, posI, Hid]
            have Hfr := Lib.hid (hfq.trans hfr6)
            clear hfr6 hown5 hown6 hg5 hg6 hb5 hb6 hlt5 hlt6 hc5 hc6 Hown1
            go_wp2_with fail
            go_roundw
            case rel => exact ⟨1, [s.lo], by omega, by go_num, Hrow.out, Hnew.out, Hfr.out⟩
            case measure => simp [intOf] <;> omega
          · have Hcl := Lib.hid hcl
            clear hcl
            go_wp2_with fail
            go_loop [10] (fun i => ∃ k : Nat, k ≤ out.length ∧ i = .int .i64 k ∧ Hid (posI s.lo out = posI s.lo (out.drop k) + k)) (fun i => out.length - (intOf i).toNat)
            case atStart => exact ⟨0, by omega, by go_num, by unfold Hid; simp⟩
            case round =>
              obtain ⟨k, hk, rfl, HR⟩ := hrel
              have hkn : (0 : Int) ≤ k := by omega
              have hk1 : (k : Int) ≤ out.length := by omega
              have hk2 : (out.length : Int) ≤ cap := by omega
              rcases hd : out.drop k with _ | ⟨y, t⟩
              · have hkl : out.length ≤ k := List.drop_eq_nil_iff.1 hd
                have Hins := Lib.hid (insI_at (n := s.lo) (posI_drop_nil HR.out hkl) (by rw [List.getElem?_eq_none hkl]; simp))
                obtain rfl : k = out.length := by omega
                clear hd
                by_cases hck : cap = out.length
                · subst hck
                  have HtakeC : Hid (∀ w', Fr wr.heap.size wr w' → ∀ (j : Nat) (u : Value), (intCells (out.take out.length))[j]? = some u → w'.cell? (({ block := g, off := 0 } : Addr).add j) = some u) := fun w' hf j u hu => by
                    obtain ⟨x, hx, rfl⟩ := intCells_get hu
                    rw [add_at, hf.cell (p := ⟨g, j, none⟩) hg]
                    refine Hcl.out j x ?_
                    rw [List.getElem?_take] at hx
                    split at hx
                    · exact hx
                    · cases hx
                  have HdropC : Hid (∀ w' : World, w' = (wr.alloc (.cells #[.int .i64 s.lo] 3)).drew → ∀ ad, some (⟨g, 0, none⟩ : Addr) = some ad → ∀ (j : Nat) (u : Value), (intCells (out.drop out.length))[j]? = some u → w'.cell? (ad.add j) = some u) := fun w' hw ad ha j u hu => by
                    rw [List.drop_eq_nil_of_le (by omega)] at hu
                    simp [intCells] at hu
                  have hown1 : (wr.alloc (.cells #[.int .i64 s.lo] 3)).ownsRow wr.heap.size 3 1 (.slice (some ⟨wr.heap.size, 0, none⟩) 1 1) 1 [.int .i64 s.lo] :=
                    ⟨rfl, .inr ⟨wr.heap.size, 1, #[.int .i64 s.lo], rfl, Nat.le_refl _, heap_alloc_new _ _, Nat.le_refl _, by decide, rfl, rfl⟩⟩
                  have Hown1 := Lib.hid hown1
                  clear hown1
                  go_wp2_with fail
                  go_region_held3 (fun _ => True) (first | trivial)
                    (first
                      | (refine step_append_opt (by rfl) _ _ _ (by rfl) wr.heap.size 3 j0 _ 1 8 Tryz.underlying59 hj0 hy0 hy1 hy2 rfl (by omega) _ _ _ (by rfl) Hown1.out.drew
                          _ _ _ (intCells (out.drop out.length)) (by rfl) (fun h => by cases h) (by rw [intCells_length, List.length_drop]; omega) (HdropC.out _ (by rfl)) (intCells_one _) (by omega) (by unfold maxLen; omega) (by omega) (by simp) ?_; intro g5 cap5 w5 hown5 hg5 hb5 hlt5 hc5)
                      | (refine step_append_full (by rfl) _ _ _ (by rfl) 3 j0 _ 1 8 Tryz.underlying59 hj0 hy0 hy1 hy2 rfl (by omega) ⟨g, 0, none⟩ _ _ (intCells (out.take out.length)) (by rfl) (by rw [intCells_length, List.length_take]; omega) (HtakeC.out _ (((Fr.self wr).alloc _).drew.grown hg5 (fun g hg => by simp [Value.ownBlock] at hg; omega)))
                          ⟨g5, 0, none⟩ _ cap5 ([.int .i64 s.lo] ++ intCells (out.drop out.length)) (by rfl) (by rw [List.length_append, intCells_length, List.length_drop, List.length_singleton]; omega) (own_news hown5) (by omega) (by unfold maxLen; omega) (by omega) ?_; intro g6 cap6 w6 hown6 hg6 hb6 hlt6 hc6))
                  have hfr6 : Fr wr.heap.size wr w6 := (((Fr.self wr).alloc _).drew.grown hg5 (fun g hg => by simp [Value.ownBlock] at hg; omega)).grown hg6 (fun g hg => by simp at hg)
                  have hrow : IntRow w6 (.slice (some ⟨g6, 0, none⟩) (out.take out.length ++ s.lo :: out.drop out.length).length cap6) (out.take out.length ++ s.lo :: out.drop out.length) := by
                    have hlen : (out.take out.length ++ s.lo :: out.drop out.length).length = out.length + 1 := by rw [List.length_append, List.length_take, List.length_cons, List.length_drop]; omega
                    rw [hlen]
                    refine IntRow.of (base := w5.heap.size) (n := out.length + 1) ?_ (by rw [hlen]; omega)
                    have e : intCells (out.take out.length ++ s.lo :: out.drop out.length) = intCells (out.take out.length) ++ ([.int .i64 s.lo] ++ intCells (out.drop out.length)) := by unfold intCells; rw [List.map_append, List.map_cons]; rfl
                    rw [e]
                    simpa [Nat.add_assoc] using hown6
                  have hlen6 : (out.take out.length ++ s.lo :: out.drop out.length).length = out.length + 1 := by rw [List.length_append, List.length_take, List.length_cons, List.length_drop]; omega
                  rw [hlen6] at hrow
                  have Hrow := Lib.hid hrow
                  have Hfr := Lib.hid (hfq.trans hfr6)
                  have Hnew := Lib.hid (Hins.out.symm.trans Hnx.out)
                  clear hrow hlen6 hfr6 hown5 hown6 hg5 hg6 hb5 hb6 hlt5 hlt6 hc5 hc6 HdropC HtakeC Hown1
                  go_wp2_with fail
                  go_roundw
                  case rel => exact ⟨1, out.take out.length ++ s.lo :: out.drop out.length, by omega, by go_num, Hrow.out, Hnew.out, Hfr.out⟩
                  case measure => simp [intOf] <;> omega
                · have hck2 : (out.length : Int) < cap := by omega
                  have HtakeC : Hid (∀ w', Fr wr.heap.size wr w' → ∀ (j : Nat) (u : Value), (intCells (out.take out.length))[j]? = some u → w'.cell? (({ block := g, off := 0 } : Addr).add j) = some u) := fun w' hf j u hu => by
                    obtain ⟨x, hx, rfl⟩ := intCells_get hu
                    rw [add_at, hf.cell (p := ⟨g, j, none⟩) hg]
                    refine Hcl.out j x ?_
                    rw [List.getElem?_take] at hx
                    split at hx
                    · exact hx
                    · cases hx
                  have HdropC : Hid (∀ w' : World, w' = (wr.alloc (.cells #[.int .i64 s.lo] 3)).drew → ∀ ad, some (⟨g, out.length, none⟩ : Addr) = some ad → ∀ (j : Nat) (u : Value), (intCells (out.drop out.length))[j]? = some u → w'.cell? (ad.add j) = some u) := fun w' hw ad ha j u hu => by
                    injection ha with ha
                    subst ha; subst hw
                    obtain ⟨x, hx, rfl⟩ := intCells_get hu
                    rw [List.getElem?_drop] at hx
                    rw [sp_add]
                    exact ((((Fr.self wr).alloc _).drew).cell (p := ⟨g, out.length + j, none⟩) hg).trans (Hcl.out _ x hx)
                  have hown1 : (wr.alloc (.cells #[.int .i64 s.lo] 3)).ownsRow wr.heap.size 3 1 (.slice (some ⟨wr.heap.size, 0, none⟩) 1 1) 1 [.int .i64 s.lo] :=
                    ⟨rfl, .inr ⟨wr.heap.size, 1, #[.int .i64 s.lo], rfl, Nat.le_refl _, heap_alloc_new _ _, Nat.le_refl _, by decide, rfl, rfl⟩⟩
                  have Hown1 := Lib.hid hown1
                  clear hown1
                  go_wp2_with fail
                  go_region_held3 (fun _ => True) (first | trivial)
                    (first
                      | (refine step_append_opt (by rfl) _ _ _ (by rfl) wr.heap.size 3 j0 _ 1 8 Tryz.underlying59 hj0 hy0 hy1 hy2 rfl (by omega) _ _ _ (by rfl) Hown1.out.drew
                          _ _ _ (intCells (out.drop out.length)) (by rfl) (fun h => by cases h) (by rw [intCells_length, List.length_drop]; omega) (HdropC.out _ (by rfl)) (intCells_one _) (by omega) (by unfold maxLen; omega) (by omega) (by simp) ?_; intro g5 cap5 w5 hown5 hg5 hb5 hlt5 hc5)
                      | (refine step_append_full (by rfl) _ _ _ (by rfl) 3 j0 _ 1 8 Tryz.underlying59 hj0 hy0 hy1 hy2 rfl (by omega) ⟨g, 0, none⟩ _ _ (intCells (out.take out.length)) (by rfl) (by rw [intCells_length, List.length_take]; omega) (HtakeC.out _ (((Fr.self wr).alloc _).drew.grown hg5 (fun g hg => by simp [Value.ownBlock] at hg; omega)))
                          ⟨g5, 0, none⟩ _ cap5 ([.int .i64 s.lo] ++ intCells (out.drop out.length)) (by rfl) (by rw [List.length_append, intCells_length, List.length_drop, List.length_singleton]; omega) (own_news hown5) (by omega) (by unfold maxLen; omega) (by omega) ?_; intro g6 cap6 w6 hown6 hg6 hb6 hlt6 hc6))
                  have hfr6 : Fr wr.heap.size wr w6 := (((Fr.self wr).alloc _).drew.grown hg5 (fun g hg => by simp [Value.ownBlock] at hg; omega)).grown hg6 (fun g hg => by simp at hg)
                  have hrow : IntRow w6 (.slice (some ⟨g6, 0, none⟩) (out.take out.length ++ s.lo :: out.drop out.length).length cap6) (out.take out.length ++ s.lo :: out.drop out.length) := by
                    have hlen : (out.take out.length ++ s.lo :: out.drop out.length).length = out.length + 1 := by rw [List.length_append, List.length_take, List.length_cons, List.length_drop]; omega
                    rw [hlen]
                    refine IntRow.of (base := w5.heap.size) (n := out.length + 1) ?_ (by rw [hlen]; omega)
                    have e : intCells (out.take out.length ++ s.lo :: out.drop out.length) = intCells (out.take out.length) ++ ([.int .i64 s.lo] ++ intCells (out.drop out.length)) := by unfold intCells; rw [List.map_append, List.map_cons]; rfl
                    rw [e]
                    simpa [Nat.add_assoc] using hown6
                  have hlen6 : (out.take out.length ++ s.lo :: out.drop out.length).length = out.length + 1 := by rw [List.length_append, List.length_take, List.length_cons, List.length_drop]; omega
                  rw [hlen6] at hrow
                  have Hrow := Lib.hid hrow
                  have Hfr := Lib.hid (hfq.trans hfr6)
                  have Hnew := Lib.hid (Hins.out.symm.trans Hnx.out)
                  clear hrow hlen6 hfr6 hown5 hown6 hg5 hg6 hb5 hb6 hlt5 hlt6 hc5 hc6 HdropC HtakeC Hown1
                  go_wp2_with fail
                  go_roundw
                  case rel => exact ⟨1, out.take out.length ++ s.lo :: out.drop out.length, by omega, by go_num, Hrow.out, Hnew.out, Hfr.out⟩
                  case measure => simp [intOf] <;> omega
              · have hyk := drop_cons_get hd
                have hkl : k < out.length := (List.getElem?_eq_some_iff.1 hyk).1
                have hkl2 : (k : Int) < out.length := by omega
                have ck := Hcl.out k y hyk
                by_cases hy : y < s.lo
                · have Hs := Lib.hid (posI_drop_next HR.out hd hy)
                  clear hd hyk
                  go_wp2_with fail
                  go_round
                  case rel => exact ⟨k + 1, by omega, by go_num, Hs⟩
                  case measure => simp [intOf] <;> omega
                · have hp := posI_drop_cons HR.out hd hy
                  by_cases he : y = s.lo
                  · have Hnew := Lib.hid ((insI_same hp (by rw [hyk, he])).symm.trans Hnx.out)
                    have hneb : (y != s.lo) = false := by rw [he]; exact bne_self_eq_false _
                    have HO2 : Hid (IntRow wr (.slice (some ⟨g, 0, none⟩) out.length cap) out) := .inr ⟨g, cap, rfl, hg, hcap, hpos, Hcl.out⟩
                    clear hd hyk hp he
                    go_wp2_with fail
                    go_roundw
                    case rel => exact ⟨1, out, by omega, by go_num, HO2.out, Hnew.out, hfq⟩
                    case measure => simp [intOf] <;> omega
                  · have Hins := Lib.hid (insI_at hp (by rw [hyk]; intro h; injection h with h; exact he h))
                    have hneb : (y != s.lo) = true := by simpa using he
                    have hck2 : (k : Int) < cap := by omega
                    have hck3 : (k : Int) ≤ cap := by omega
                    have hckn : ¬ cap = k := by omega
                    clear hd hyk hp he
                    have HtakeC : Hid (∀ w', Fr wr.heap.size wr w' → ∀ (j : Nat) (u : Value), (intCells (out.take k))[j]? = some u → w'.cell? (({ block := g, off := 0 } : Addr).add j) = some u) := fun w' hf j u hu => by
                      obtain ⟨x, hx, rfl⟩ := intCells_get hu
                      rw [add_at, hf.cell (p := ⟨g, j, none⟩) hg]
                      refine Hcl.out j x ?_
                      rw [List.getElem?_take] at hx
                      split at hx
                      · exact hx
                      · cases hx
                    have HdropC : Hid (∀ w' : World, w' = (wr.alloc (.cells #[.int .i64 s.lo] 3)).drew → ∀ ad, some (⟨g, k, none⟩ : Addr) = some ad → ∀ (j : Nat) (u : Value), (intCells (out.drop k))[j]? = some u → w'.cell? (ad.add j) = some u) := fun w' hw ad ha j u hu => by
                      injection ha with ha
                      subst ha; subst hw
                      obtain ⟨x, hx, rfl⟩ := intCells_get hu
                      rw [List.getElem?_drop] at hx
                      rw [sp_add]
                      exact ((((Fr.self wr).alloc _).drew).cell (p := ⟨g, k + j, none⟩) hg).trans (Hcl.out _ x hx)
                    have hown1 : (wr.alloc (.cells #[.int .i64 s.lo] 3)).ownsRow wr.heap.size 3 1 (.slice (some ⟨wr.heap.size, 0, none⟩) 1 1) 1 [.int .i64 s.lo] :=
                      ⟨rfl, .inr ⟨wr.heap.size, 1, #[.int .i64 s.lo], rfl, Nat.le_refl _, heap_alloc_new _ _, Nat.le_refl _, by decide, rfl, rfl⟩⟩
                    have Hown1 := Lib.hid hown1
                    clear hown1
                    go_wp2_with fail
                    go_region_held3 (fun _ => True) (first | trivial)
                      (first
                        | (refine step_append_opt (by rfl) _ _ _ (by rfl) wr.heap.size 3 j0 _ 1 8 Tryz.underlying59 hj0 hy0 hy1 hy2 rfl (by omega) _ _ _ (by rfl) Hown1.out.drew
                            _ _ _ (intCells (out.drop k)) (by rfl) (fun h => by cases h) (by rw [intCells_length, List.length_drop]; omega) (HdropC.out _ (by rfl)) (intCells_one _) (by omega) (by unfold maxLen; omega) (by omega) (by simp) ?_; intro g5 cap5 w5 hown5 hg5 hb5 hlt5 hc5)
                        | (refine step_append_full (by rfl) _ _ _ (by rfl) 3 j0 _ 1 8 Tryz.underlying59 hj0 hy0 hy1 hy2 rfl (by omega) ⟨g, 0, none⟩ _ _ (intCells (out.take k)) (by rfl) (by rw [intCells_length, List.length_take]; omega) (HtakeC.out _ (((Fr.self wr).alloc _).drew.grown hg5 (fun g hg => by simp [Value.ownBlock] at hg; omega)))
                            ⟨g5, 0, none⟩ _ cap5 ([.int .i64 s.lo] ++ intCells (out.drop k)) (by rfl) (by rw [List.length_append, intCells_length, List.length_drop, List.length_singleton]; omega) (own_news hown5) (by omega) (by unfold maxLen; omega) (by omega) ?_; intro g6 cap6 w6 hown6 hg6 hb6 hlt6 hc6))
                    have hfr6 : Fr wr.heap.size wr w6 := (((Fr.self wr).alloc _).drew.grown hg5 (fun g hg => by simp [Value.ownBlock] at hg; omega)).grown hg6 (fun g hg => by simp at hg)
                    have hrow : IntRow w6 (.slice (some ⟨g6, 0, none⟩) (out.take k ++ s.lo :: out.drop k).length cap6) (out.take k ++ s.lo :: out.drop k) := by
                      have hlen : (out.take k ++ s.lo :: out.drop k).length = k + (1 + (out.length - k)) := by rw [List.length_append, List.length_take, List.length_cons, List.length_drop]; omega
                      rw [hlen]
                      refine IntRow.of (base := w5.heap.size) (n := k + (1 + (out.length - k))) ?_ (by rw [hlen]; omega)
                      have e : intCells (out.take k ++ s.lo :: out.drop k) = intCells (out.take k) ++ ([.int .i64 s.lo] ++ intCells (out.drop k)) := by unfold intCells; rw [List.map_append, List.map_cons]; rfl
                      rw [e]
                      simpa [Nat.add_assoc] using hown6
                    have hlen6 : (out.take k ++ s.lo :: out.drop k).length = k + (1 + (out.length - k)) := by rw [List.length_append, List.length_take, List.length_cons, List.length_drop]; omega
                    rw [hlen6] at hrow
                    have Hrow := Lib.hid hrow
                    have Hfr := Lib.hid (hfq.trans hfr6)
                    have Hnew := Lib.hid (Hins.out.symm.trans Hnx.out)
                    clear hrow hlen6 hfr6 hown5 hown6 hg5 hg6 hb5 hb6 hlt5 hlt6 hc5 hc6 HdropC HtakeC Hown1
                    go_wp2_with fail
                    go_roundw
                    case rel => exact ⟨1, out.take k ++ s.lo :: out.drop k, by omega, by go_num, Hrow.out, Hnew.out, Hfr.out⟩
                    case measure => simp [intOf] <;> omega
        · have Hnx : Hid (insI (s.hi + 1) out = edge1 2 base s) := by have h := HE.out; subst h; rfl
          clear HE
          rcases HO.out with ⟨rfl, hnil⟩ | ⟨g, cap, rfl, hg, hcap, hpos, hcl⟩
          · subst hnil
            go_wp2_with fail
            refine wp_loop_rounds 1 ?_
            rw [rounds_succ]
            go_wp2_with fail
            have hown1 : (wr.alloc (.cells #[.int .i64 (s.hi + 1)] 3)).ownsRow wr.heap.size 3 1 (.slice (some ⟨wr.heap.size, 0, none⟩) 1 1) 1 [.int .i64 (s.hi + 1)] :=
              ⟨rfl, .inr ⟨wr.heap.size, 1, #[.int .i64 (s.hi + 1)], rfl, Nat.le_refl _, heap_alloc_new _ _, Nat.le_refl _, by decide, rfl, rfl⟩⟩
            have Hown1 := Lib.hid hown1
            clear hown1
            go_region_held3 (fun _ => True) (first | trivial)
              (first
                | (refine step_append_opt (by rfl) _ _ _ (by rfl) wr.heap.size 3 j0 _ 1 8 Tryz.underlying59 hj0 hy0 hy1 hy2 rfl (by omega) _ _ _ (by rfl) Hown1.out.drew
                    none 0 0 [] (by rfl) (fun _ => ⟨rfl, rfl⟩) (by rfl) (fun ad h => by cases h) (by simp) (by omega) (by unfold maxLen; omega) (by omega) (by simp) ?_; intro g5 cap5 w5 hown5 hg5 hb5 hlt5 hc5)
                | (refine step_append_opt (by rfl) _ _ _ (by rfl) wr.heap.size 3 j0 _ 1 8 Tryz.underlying59 hj0 hy0 hy1 hy2 rfl (by omega) _ _ _ (by rfl) (World.ownsRow_nil w5 _ _ _)
                    (some ⟨g5, 0, none⟩) 1 cap5 [.int .i64 (s.hi + 1)] (by rfl) (fun h => by cases h) (by rfl) (fun ad h => by cases h; exact own_news hown5) (by simp [Value.oneCell']) (by omega) (by unfold maxLen; omega) (by omega) (by have := hg5.size; simp at this; omega) ?_; intro g6 cap6 w6 hown6 hg6 hb6 hlt6 hc6))
            have hfr6 : Fr wr.heap.size wr w6 := (((Fr.self wr).alloc _).drew.grown hg5 (fun g hg => by simp [Value.ownBlock] at hg; omega)).grown hg6 (fun g hg => by simp [Value.ownBlock] at hg)
            have Hrow : Hid (IntRow w6 (.slice (some ⟨g6, 0, none⟩) 1 cap6) [(s.hi + 1)]) := IntRow.of (n := 0 + 1) (l := [(s.hi + 1)]) hown6 (by simp)
            have Hnew : Hid ([(s.hi + 1)] = edge1 2 base s) := by rw [← Hnx.out]; simp [insI, posI, Hid]
            have Hfr := Lib.hid (hfq.trans hfr6)
            clear hfr6 hown5 hown6 hg5 hg6 hb5 hb6 hlt5 hlt6 hc5 hc6 Hown1
            go_wp2_with fail
            go_roundw
            case rel => exact ⟨2, [(s.hi + 1)], by omega, by go_num, Hrow.out, Hnew.out, Hfr.out⟩
            case measure => simp [intOf] <;> omega
          · have Hcl := Lib.hid hcl
            clear hcl
            go_wp2_with fail
            go_loop [10] (fun i => ∃ k : Nat, k ≤ out.length ∧ i = .int .i64 k ∧ Hid (posI (s.hi + 1) out = posI (s.hi + 1) (out.drop k) + k)) (fun i => out.length - (intOf i).toNat)
            case atStart => exact ⟨0, by omega, by go_num, by unfold Hid; simp⟩
            case round =>
              obtain ⟨k, hk, rfl, HR⟩ := hrel
              have hkn : (0 : Int) ≤ k := by omega
              have hk1 : (k : Int) ≤ out.length := by omega
              have hk2 : (out.length : Int) ≤ cap := by omega
              rcases hd : out.drop k with _ | ⟨y, t⟩
              · have hkl : out.length ≤ k := List.drop_eq_nil_iff.1 hd
                have Hins := Lib.hid (insI_at (n := (s.hi + 1)) (posI_drop_nil HR.out hkl) (by rw [List.getElem?_eq_none hkl]; simp))
                obtain rfl : k = out.length := by omega
                clear hd
                by_cases hck : cap = out.length
                · subst hck
                  have HtakeC : Hid (∀ w', Fr wr.heap.size wr w' → ∀ (j : Nat) (u : Value), (intCells (out.take out.length))[j]? = some u → w'.cell? (({ block := g, off := 0 } : Addr).add j) = some u) := fun w' hf j u hu => by
                    obtain ⟨x, hx, rfl⟩ := intCells_get hu
                    rw [add_at, hf.cell (p := ⟨g, j, none⟩) hg]
                    refine Hcl.out j x ?_
                    rw [List.getElem?_take] at hx
                    split at hx
                    · exact hx
                    · cases hx
                  have HdropC : Hid (∀ w' : World, w' = (wr.alloc (.cells #[.int .i64 (s.hi + 1)] 3)).drew → ∀ ad, some (⟨g, 0, none⟩ : Addr) = some ad → ∀ (j : Nat) (u : Value), (intCells (out.drop out.length))[j]? = some u → w'.cell? (ad.add j) = some u) := fun w' hw ad ha j u hu => by
                    rw [List.drop_eq_nil_of_le (by omega)] at hu
                    simp [intCells] at hu
                  have hown1 : (wr.alloc (.cells #[.int .i64 (s.hi + 1)] 3)).ownsRow wr.heap.size 3 1 (.slice (some ⟨wr.heap.size, 0, none⟩) 1 1) 1 [.int .i64 (s.hi + 1)] :=
                    ⟨rfl, .inr ⟨wr.heap.size, 1, #[.int .i64 (s.hi + 1)], rfl, Nat.le_refl _, heap_alloc_new _ _, Nat.le_refl _, by decide, rfl, rfl⟩⟩
                  have Hown1 := Lib.hid hown1
                  clear hown1
                  go_wp2_with fail
                  go_region_held3 (fun _ => True) (first | trivial)
                    (first
                      | (refine step_append_opt (by rfl) _ _ _ (by rfl) wr.heap.size 3 j0 _ 1 8 Tryz.underlying59 hj0 hy0 hy1 hy2 rfl (by omega) _ _ _ (by rfl) Hown1.out.drew
                          _ _ _ (intCells (out.drop out.length)) (by rfl) (fun h => by cases h) (by rw [intCells_length, List.length_drop]; omega) (HdropC.out _ (by rfl)) (intCells_one _) (by omega) (by unfold maxLen; omega) (by omega) (by simp) ?_; intro g5 cap5 w5 hown5 hg5 hb5 hlt5 hc5)
                      | (refine step_append_full (by rfl) _ _ _ (by rfl) 3 j0 _ 1 8 Tryz.underlying59 hj0 hy0 hy1 hy2 rfl (by omega) ⟨g, 0, none⟩ _ _ (intCells (out.take out.length)) (by rfl) (by rw [intCells_length, List.length_take]; omega) (HtakeC.out _ (((Fr.self wr).alloc _).drew.grown hg5 (fun g hg => by simp [Value.ownBlock] at hg; omega)))
                          ⟨g5, 0, none⟩ _ cap5 ([.int .i64 (s.hi + 1)] ++ intCells (out.drop out.length)) (by rfl) (by rw [List.length_append, intCells_length, List.length_drop, List.length_singleton]; omega) (own_news hown5) (by omega) (by unfold maxLen; omega) (by omega) ?_; intro g6 cap6 w6 hown6 hg6 hb6 hlt6 hc6))
                  have hfr6 : Fr wr.heap.size wr w6 := (((Fr.self wr).alloc _).drew.grown hg5 (fun g hg => by simp [Value.ownBlock] at hg; omega)).grown hg6 (fun g hg => by simp at hg)
                  have hrow : IntRow w6 (.slice (some ⟨g6, 0, none⟩) (out.take out.length ++ (s.hi + 1) :: out.drop out.length).length cap6) (out.take out.length ++ (s.hi + 1) :: out.drop out.length) := by
                    have hlen : (out.take out.length ++ (s.hi + 1) :: out.drop out.length).length = out.length + 1 := by rw [List.length_append, List.length_take, List.length_cons, List.length_drop]; omega
                    rw [hlen]
                    refine IntRow.of (base := w5.heap.size) (n := out.length + 1) ?_ (by rw [hlen]; omega)
                    have e : intCells (out.take out.length ++ (s.hi + 1) :: out.drop out.length) = intCells (out.take out.length) ++ ([.int .i64 (s.hi + 1)] ++ intCells (out.drop out.length)) := by unfold intCells; rw [List.map_append, List.map_cons]; rfl
                    rw [e]
                    simpa [Nat.add_assoc] using hown6
                  have hlen6 : (out.take out.length ++ (s.hi + 1) :: out.drop out.length).length = out.length + 1 := by rw [List.length_append, List.length_take, List.length_cons, List.length_drop]; omega
                  rw [hlen6] at hrow
                  have Hrow := Lib.hid hrow
                  have Hfr := Lib.hid (hfq.trans hfr6)
                  have Hnew := Lib.hid (Hins.out.symm.trans Hnx.out)
                  clear hrow hlen6 hfr6 hown5 hown6 hg5 hg6 hb5 hb6 hlt5 hlt6 hc5 hc6 HdropC HtakeC Hown1
                  go_wp2_with fail
                  go_roundw
                  case rel => exact ⟨2, out.take out.length ++ (s.hi + 1) :: out.drop out.length, by omega, by go_num, Hrow.out, Hnew.out, Hfr.out⟩
                  case measure => simp [intOf] <;> omega
                · have hck2 : (out.length : Int) < cap := by omega
                  have HtakeC : Hid (∀ w', Fr wr.heap.size wr w' → ∀ (j : Nat) (u : Value), (intCells (out.take out.length))[j]? = some u → w'.cell? (({ block := g, off := 0 } : Addr).add j) = some u) := fun w' hf j u hu => by
                    obtain ⟨x, hx, rfl⟩ := intCells_get hu
                    rw [add_at, hf.cell (p := ⟨g, j, none⟩) hg]
                    refine Hcl.out j x ?_
                    rw [List.getElem?_take] at hx
                    split at hx
                    · exact hx
                    · cases hx
                  have HdropC : Hid (∀ w' : World, w' = (wr.alloc (.cells #[.int .i64 (s.hi + 1)] 3)).drew → ∀ ad, some (⟨g, out.length, none⟩ : Addr) = some ad → ∀ (j : Nat) (u : Value), (intCells (out.drop out.length))[j]? = some u → w'.cell? (ad.add j) = some u) := fun w' hw ad ha j u hu => by
                    injection ha with ha
                    subst ha; subst hw
                    obtain ⟨x, hx, rfl⟩ := intCells_get hu
                    rw [List.getElem?_drop] at hx
                    rw [sp_add]
                    exact ((((Fr.self wr).alloc _).drew).cell (p := ⟨g, out.length + j, none⟩) hg).trans (Hcl.out _ x hx)
                  have hown1 : (wr.alloc (.cells #[.int .i64 (s.hi + 1)] 3)).ownsRow wr.heap.size 3 1 (.slice (some ⟨wr.heap.size, 0, none⟩) 1 1) 1 [.int .i64 (s.hi + 1)] :=
                    ⟨rfl, .inr ⟨wr.heap.size, 1, #[.int .i64 (s.hi + 1)], rfl, Nat.le_refl _, heap_alloc_new _ _, Nat.le_refl _, by decide, rfl, rfl⟩⟩
                  have Hown1 := Lib.hid hown1
                  clear hown1
                  go_wp2_with fail
                  go_region_held3 (fun _ => True) (first | trivial)
                    (first
                      | (refine step_append_opt (by rfl) _ _ _ (by rfl) wr.heap.size 3 j0 _ 1 8 Tryz.underlying59 hj0 hy0 hy1 hy2 rfl (by omega) _ _ _ (by rfl) Hown1.out.drew
                          _ _ _ (intCells (out.drop out.length)) (by rfl) (fun h => by cases h) (by rw [intCells_length, List.length_drop]; omega) (HdropC.out _ (by rfl)) (intCells_one _) (by omega) (by unfold maxLen; omega) (by omega) (by simp) ?_; intro g5 cap5 w5 hown5 hg5 hb5 hlt5 hc5)
                      | (refine step_append_full (by rfl) _ _ _ (by rfl) 3 j0 _ 1 8 Tryz.underlying59 hj0 hy0 hy1 hy2 rfl (by omega) ⟨g, 0, none⟩ _ _ (intCells (out.take out.length)) (by rfl) (by rw [intCells_length, List.length_take]; omega) (HtakeC.out _ (((Fr.self wr).alloc _).drew.grown hg5 (fun g hg => by simp [Value.ownBlock] at hg; omega)))
                          ⟨g5, 0, none⟩ _ cap5 ([.int .i64 (s.hi + 1)] ++ intCells (out.drop out.length)) (by rfl) (by rw [List.length_append, intCells_length, List.length_drop, List.length_singleton]; omega) (own_news hown5) (by omega) (by unfold maxLen; omega) (by omega) ?_; intro g6 cap6 w6 hown6 hg6 hb6 hlt6 hc6))
                  have hfr6 : Fr wr.heap.size wr w6 := (((Fr.self wr).alloc _).drew.grown hg5 (fun g hg => by simp [Value.ownBlock] at hg; omega)).grown hg6 (fun g hg => by simp at hg)
                  have hrow : IntRow w6 (.slice (some ⟨g6, 0, none⟩) (out.take out.length ++ (s.hi + 1) :: out.drop out.length).length cap6) (out.take out.length ++ (s.hi + 1) :: out.drop out.length) := by
                    have hlen : (out.take out.length ++ (s.hi + 1) :: out.drop out.length).length = out.length + 1 := by rw [List.length_append, List.length_take, List.length_cons, List.length_drop]; omega
                    rw [hlen]
                    refine IntRow.of (base := w5.heap.size) (n := out.length + 1) ?_ (by rw [hlen]; omega)
                    have e : intCells (out.take out.length ++ (s.hi + 1) :: out.drop out.length) = intCells (out.take out.length) ++ ([.int .i64 (s.hi + 1)] ++ intCells (out.drop out.length)) := by unfold intCells; rw [List.map_append, List.map_cons]; rfl
                    rw [e]
                    simpa [Nat.add_assoc] using hown6
                  have hlen6 : (out.take out.length ++ (s.hi + 1) :: out.drop out.length).length = out.length + 1 := by rw [List.length_append, List.length_take, List.length_cons, List.length_drop]; omega
                  rw [hlen6] at hrow
                  have Hrow := Lib.hid hrow
                  have Hfr := Lib.hid (hfq.trans hfr6)
                  have Hnew := Lib.hid (Hins.out.symm.trans Hnx.out)
                  clear hrow hlen6 hfr6 hown5 hown6 hg5 hg6 hb5 hb6 hlt5 hlt6 hc5 hc6 HdropC HtakeC Hown1
                  go_wp2_with fail
                  go_roundw
                  case rel => exact ⟨2, out.take out.length ++ (s.hi + 1) :: out.drop out.length, by omega, by go_num, Hrow.out, Hnew.out, Hfr.out⟩
                  case measure => simp [intOf] <;> omega
              · have hyk := drop_cons_get hd
                have hkl : k < out.length := (List.getElem?_eq_some_iff.1 hyk).1
                have hkl2 : (k : Int) < out.length := by omega
                have ck := Hcl.out k y hyk
                by_cases hy : y < (s.hi + 1)
                · have Hs := Lib.hid (posI_drop_next HR.out hd hy)
                  clear hd hyk
                  go_wp2_with fail
                  go_round
                  case rel => exact ⟨k + 1, by omega, by go_num, Hs⟩
                  case measure => simp [intOf] <;> omega
                · have hp := posI_drop_cons HR.out hd hy
                  by_cases he : y = (s.hi + 1)
                  · have Hnew := Lib.hid ((insI_same hp (by rw [hyk, he])).symm.trans Hnx.out)
                    have hneb : (y != (s.hi + 1)) = false := by rw [he]; exact bne_self_eq_false _
                    have HO2 : Hid (IntRow wr (.slice (some ⟨g, 0, none⟩) out.length cap) out) := .inr ⟨g, cap, rfl, hg, hcap, hpos, Hcl.out⟩
                    clear hd hyk hp he
                    go_wp2_with fail
                    go_roundw
                    case rel => exact ⟨2, out, by omega, by go_num, HO2.out, Hnew.out, hfq⟩
                    case measure => simp [intOf] <;> omega
                  · have Hins := Lib.hid (insI_at hp (by rw [hyk]; intro h; injection h with h; exact he h))
                    have hneb : (y != (s.hi + 1)) = true := by simpa using he
                    have hck2 : (k : Int) < cap := by omega
                    have hck3 : (k : Int) ≤ cap := by omega
                    have hckn : ¬ cap = k := by omega
                    clear hd hyk hp he
                    have HtakeC : Hid (∀ w', Fr wr.heap.size wr w' → ∀ (j : Nat) (u : Value), (intCells (out.take k))[j]? = some u → w'.cell? (({ block := g, off := 0 } : Addr).add j) = some u) := fun w' hf j u hu => by
                      obtain ⟨x, hx, rfl⟩ := intCells_get hu
                      rw [add_at, hf.cell (p := ⟨g, j, none⟩) hg]
                      refine Hcl.out j x ?_
                      rw [List.getElem?_take] at hx
                      split at hx
                      · exact hx
                      · cases hx
                    have HdropC : Hid (∀ w' : World, w' = (wr.alloc (.cells #[.int .i64 (s.hi + 1)] 3)).drew → ∀ ad, some (⟨g, k, none⟩ : Addr) = some ad → ∀ (j : Nat) (u : Value), (intCells (out.drop k))[j]? = some u → w'.cell? (ad.add j) = some u) := fun w' hw ad ha j u hu => by
                      injection ha with ha
                      subst ha; subst hw
                      obtain ⟨x, hx, rfl⟩ := intCells_get hu
                      rw [List.getElem?_drop] at hx
                      rw [sp_add]
                      exact ((((Fr.self wr).alloc _).drew).cell (p := ⟨g, k + j, none⟩) hg).trans (Hcl.out _ x hx)
                    have hown1 : (wr.alloc (.cells #[.int .i64 (s.hi + 1)] 3)).ownsRow wr.heap.size 3 1 (.slice (some ⟨wr.heap.size, 0, none⟩) 1 1) 1 [.int .i64 (s.hi + 1)] :=
                      ⟨rfl, .inr ⟨wr.heap.size, 1, #[.int .i64 (s.hi + 1)], rfl, Nat.le_refl _, heap_alloc_new _ _, Nat.le_refl _, by decide, rfl, rfl⟩⟩
                    have Hown1 := Lib.hid hown1
                    clear hown1
                    go_wp2_with fail
                    go_region_held3 (fun _ => True) (first | trivial)
                      (first
                        | (refine step_append_opt (by rfl) _ _ _ (by rfl) wr.heap.size 3 j0 _ 1 8 Tryz.underlying59 hj0 hy0 hy1 hy2 rfl (by omega) _ _ _ (by rfl) Hown1.out.drew
                            _ _ _ (intCells (out.drop k)) (by rfl) (fun h => by cases h) (by rw [intCells_length, List.length_drop]; omega) (HdropC.out _ (by rfl)) (intCells_one _) (by omega) (by unfold maxLen; omega) (by omega) (by simp) ?_; intro g5 cap5 w5 hown5 hg5 hb5 hlt5 hc5)
                        | (refine step_append_full (by rfl) _ _ _ (by rfl) 3 j0 _ 1 8 Tryz.underlying59 hj0 hy0 hy1 hy2 rfl (by omega) ⟨g, 0, none⟩ _ _ (intCells (out.take k)) (by rfl) (by rw [intCells_length, List.length_take]; omega) (HtakeC.out _ (((Fr.self wr).alloc _).drew.grown hg5 (fun g hg => by simp [Value.ownBlock] at hg; omega)))
                            ⟨g5, 0, none⟩ _ cap5 ([.int .i64 (s.hi + 1)] ++ intCells (out.drop k)) (by rfl) (by rw [List.length_append, intCells_length, List.length_drop, List.length_singleton]; omega) (own_news hown5) (by omega) (by unfold maxLen; omega) (by omega) ?_; intro g6 cap6 w6 hown6 hg6 hb6 hlt6 hc6))
                    have hfr6 : Fr wr.heap.size wr w6 := (((Fr.self wr).alloc _).drew.grown hg5 (fun g hg => by simp [Value.ownBlock] at hg; omega)).grown hg6 (fun g hg => by simp at hg)
                    have hrow : IntRow w6 (.slice (some ⟨g6, 0, none⟩) (out.take k ++ (s.hi + 1) :: out.drop k).length cap6) (out.take k ++ (s.hi + 1) :: out.drop k) := by
                      have hlen : (out.take k ++ (s.hi + 1) :: out.drop k).length = k + (1 + (out.length - k)) := by rw [List.length_append, List.length_take, List.length_cons, List.length_drop]; omega
                      rw [hlen]
                      refine IntRow.of (base := w5.heap.size) (n := k + (1 + (out.length - k))) ?_ (by rw [hlen]; omega)
                      have e : intCells (out.take k ++ (s.hi + 1) :: out.drop k) = intCells (out.take k) ++ ([.int .i64 (s.hi + 1)] ++ intCells (out.drop k)) := by unfold intCells; rw [List.map_append, List.map_cons]; rfl
                      rw [e]
                      simpa [Nat.add_assoc] using hown6
                    have hlen6 : (out.take k ++ (s.hi + 1) :: out.drop k).length = k + (1 + (out.length - k)) := by rw [List.length_append, List.length_take, List.length_cons, List.length_drop]; omega
                    rw [hlen6] at hrow
                    have Hrow := Lib.hid hrow
                    have Hfr := Lib.hid (hfq.trans hfr6)
                    have Hnew := Lib.hid (Hins.out.symm.trans Hnx.out)
                    clear hrow hlen6 hfr6 hown5 hown6 hg5 hg6 hb5 hb6 hlt5 hlt6 hc5 hc6 HdropC HtakeC Hown1
                    go_wp2_with fail
                    go_roundw
                    case rel => exact ⟨2, out.take k ++ (s.hi + 1) :: out.drop k, by omega, by go_num, Hrow.out, Hnew.out, Hfr.out⟩
                    case measure => simp [intOf] <;> omega
        · have HE2 := Lib.hid (Het.out.trans HE.out.symm)
          go_wp2_with fail
          go_roundw
          case rel => exact ⟨m + 1, by omega, by go_num, by rw [HE2.out]; exact HO, hfr.trans hfq⟩
          case measure => simp [intOf] <;> omega
    · have Hv : Hid (edgesL (l.take m) = edgesL l) := by rw [List.take_of_length_le (by omega)]; exact rfl
      go_wp2_with fail
      go_ret
      exact ⟨⟨_, rfl, by rw [Hl.out, ← Hv.out]; exact HV.out⟩, hf4.trans hfr⟩
end Go.Proofs.YtoelifebmhlokaaGreatDoor
