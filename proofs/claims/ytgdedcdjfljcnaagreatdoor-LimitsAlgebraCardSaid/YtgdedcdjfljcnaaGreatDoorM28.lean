/- Contracts on the size of values: IsSmallValue, IsLight. Contracts on slim and Few: values with short lists and texts. -/
import Derived.Test.YtgdedcdjfljcnaaGreatDoorM20
namespace Go.Proofs.YtgdedcdjfljcnaaGreatDoor
open Go.RowKit

/-- What holds of a tree where it holds of all within it holds of all trees. -/
theorem VT.ind {P : VT → Prop} (h : ∀ k n e s names items, (∀ y ∈ items, P y) → P (.mk k n e s names items)) : ∀ x, P x
  | .mk k n e s names items => h k n e s names items fun y _ => VT.ind h y
termination_by x => SizeOf.sizeOf x
decreasing_by
  have := List.sizeOf_lt_of_mem ‹y ∈ items›
  simp; omega

theorem szIs_new (w : World) (most : Int) : SzIs (w.alloc (.cells #[.int .i64 most, .bool false] 60)) w.heap.size (most, false) := heap_alloc_new w _
theorem RepS.agg {S : Nat → Prop} {w : World} {x : VT} {cs : List Value} (h : RepS S w x cs) : ∃ k n e s A la ca D ld cb, cs = [.int .i64 k, .int .i64 n, .int .i64 e, .string s, .slice A la ca, .slice D ld cb] := by
  cases h; exact ⟨_, _, _, _, _, _, _, _, _, _, rfl⟩
theorem Kept.fr {g B : Nat} {w w' : World} (h : Kept g w w') (hB : B ≤ g) {w0 : World} (hf : Fr B w0 w) : Fr B w0 w' := ⟨hf.1, hf.2.trans (h.below hB hf.le)⟩

set_option maxRecDepth 100000 in
theorem isSmallValue_any {w : World} {x : VT} {cs : List Value} (hrep : Rep w.heap.size w x cs) (most : Int) (h0 : 0 ≤ most) (h1 : most ≤ 4611686018427387904) :
    Calls Tryz.prog 124 #[.agg cs.toArray, .int .i64 most] w fun e w' => e = .returned (.bool (!(szVal x 8 (most, false)).2)) ∧ Fr w.heap.size w w' := by
  obtain ⟨k, n, e, s, A, la, ca, D, ld, cb, rfl⟩ := hrep.agg
  have hf := Fr.self w
  have Hv := Lib.hid (fun (w1 : World) (hb : Below w.heap.size w w1) (hs : SzIs w1 (w.heap.size + 1) (most, false)) => sizerValue_any hrep w1 (w.heap.size + 1) most 8 hb (by have := hb.size; omega) (by omega) hs h0 h1 (by omega) (by omega))
  have hsz : ∀ o, SzIs ((w.alloc o).alloc (.cells #[.int .i64 most, .bool false] 60)) (w.heap.size + 1) (most, false) := fun o => by
    have := szIs_new (w.alloc o) most
    simpa using this
  have Hsz := Lib.hid hsz
  clear hrep hsz
  generalize szVal x 8 (most, false) = q at *
  obtain ⟨q1, q2⟩ := q
  go_enter Tryz.func124, Tryz.ntmps124
  go_wp2_with (go_at_call 39; refine (Hv.out _ ((hf.alloc _).alloc _).2 (Hsz.out _)).mono ?_; rintro e w1 ⟨rfl, hs1, hk1⟩; obtain ⟨c0, c1, f0, f1⟩ := hs1.cells)
  go_ret
  exact ⟨rfl, hk1.fr (by omega) ((hf.alloc _).alloc _)⟩

/-- Values lie in a slice. -/
def ValsS (S : Nat → Prop) (w : World) (v : Value) (xs : List VT) : Prop :=
  ∃ D cb, v = .slice D xs.length cb ∧ (D = none → cb = 0) ∧ xs.length ≤ cb ∧ xs.length ≤ maxLen ∧ ∃ C : Nat → List Value, (xs = [] ∨ ∃ b off, D = some ⟨b, off, none⟩ ∧ S b ∧ ∀ i x, xs[i]? = some x → ∀ j u, (C i)[j]? = some u → w.cell? ⟨b, off + i * 6 + j, none⟩ = some u) ∧ ∀ i x, xs[i]? = some x → RepS S w x (C i)
abbrev ValsAt (B : Nat) := ValsS (fun b => b < B)
theorem ValsS.keep {S T : Nat → Prop} {w w' : World} (hb : Stay S w w') (hT : ∀ b, S b → T b) {v : Value} {xs : List VT} (h : ValsS S w v xs) : ValsS T w' v xs := by
  obtain ⟨D, cb, rfl, hd, hlc, hl, C, hc, hr⟩ := h
  refine ⟨D, cb, rfl, hd, hlc, hl, C, ?_, fun i x hx => (hr i x hx).keep hb hT⟩
  rcases hc with hc | ⟨b, off, h1, h2, h3⟩
  · exact .inl hc
  · exact .inr ⟨b, off, h1, hT b h2, fun i x hx j u hu => (hb.cell (p := ⟨b, off + i * 6 + j, none⟩) h2).trans (h3 i x hx j u hu)⟩
theorem ValsAt.keep {B : Nat} {w w' : World} (hb : Below B w w') {v : Value} {xs : List VT} (h : ValsAt B w v xs) : ValsAt B w' v xs := ValsS.keep (Below.stay hb) (fun _ h => h) h
/-- An item of a slice of values: its six cells. -/
theorem ValsAt.item {B : Nat} {w w' : World} {D : Option Addr} {n cb : Nat} {xs : List VT} (h : ValsAt B w (.slice D n cb) xs) (hb : Below B w w') {m : Nat} {y : VT} (hy : xs[m]? = some y) :
    ∃ b off v0 v1 v2 v3 v4 v5, D = some ⟨b, off, none⟩ ∧ Rep B w' y [v0, v1, v2, v3, v4, v5] ∧ w'.cell? ⟨b, off + m * 6, none⟩ = some v0 ∧ w'.cell? ⟨b, off + m * 6 + 1, none⟩ = some v1 ∧ w'.cell? ⟨b, off + m * 6 + 2, none⟩ = some v2 ∧
      w'.cell? ⟨b, off + m * 6 + 3, none⟩ = some v3 ∧ w'.cell? ⟨b, off + m * 6 + 4, none⟩ = some v4 ∧ w'.cell? ⟨b, off + m * 6 + 5, none⟩ = some v5 := by
  obtain ⟨D', cb', hv, -, -, -, C, hc, hr⟩ := h
  injection hv with e1 _ _
  subst e1
  have hne : xs ≠ [] := by rintro rfl; simp at hy
  obtain ⟨b, off, rfl, hbB, hcl⟩ := hc.resolve_left hne
  have hry := hr m y hy
  obtain ⟨v0, v1, v2, v3, v4, v5, hC⟩ := six_of hry.six
  have hcl' := hcl m y hy
  rw [hC] at hcl' hry
  exact ⟨b, off, v0, v1, v2, v3, v4, v5, rfl, Rep.keep hb hry, (hb.cell (p := ⟨b, _, none⟩) hbB).trans (hcl' 0 v0 rfl), (hb.cell (p := ⟨b, _, none⟩) hbB).trans (hcl' 1 v1 rfl), (hb.cell (p := ⟨b, _, none⟩) hbB).trans (hcl' 2 v2 rfl),
    (hb.cell (p := ⟨b, _, none⟩) hbB).trans (hcl' 3 v3 rfl), (hb.cell (p := ⟨b, _, none⟩) hbB).trans (hcl' 4 v4 rfl), (hb.cell (p := ⟨b, _, none⟩) hbB).trans (hcl' 5 v5 rfl)⟩
theorem ValsAt.len {B : Nat} {w : World} {D : Option Addr} {n cb : Nat} {xs : List VT} (h : ValsAt B w (.slice D n cb) xs) : n = xs.length ∧ xs.length ≤ 9223372036854775807 := by
  obtain ⟨D', cb', hv, -, -, hl, -⟩ := h
  injection hv with _ e2 _
  exact ⟨e2, hl⟩

set_option maxRecDepth 100000 in
theorem isLight_any {w : World} {v : Value} {xs : List VT} (h : ValsAt w.heap.size w v xs) (most lv : Int) (h0 : 0 ≤ most) (h1 : most ≤ 4611686018427387904) (hl1 : lv ≤ 4611686018427387904) (hl0 : -4611686018427387904 ≤ lv) :
    Calls Tryz.prog 63 #[v, .int .i64 most, .int .i64 lv] w fun e w' => e = .returned (.bool (!(szList xs lv (most, false)).2)) ∧ Fr w.heap.size w w' := by
  obtain ⟨D, cb, rfl, -, -, hlen, -⟩ := id h
  have hlen' : xs.length ≤ 9223372036854775807 := hlen
  have hf := Fr.self w
  have Hva := Lib.hid h
  have hs0 := szIs_new w most
  have hok0 : (szList [] lv (most, false)) = (most, false) := by rw [szList]
  clear h
  go_enter Tryz.func63, Tryz.ntmps63
  go_wp2_with fail
  go_loopw [8] (fun i wr => ∃ m : Nat, m ≤ xs.length ∧ i = .int .i64 m ∧ Hid (SzIs wr w.heap.size (szList (xs.take m) lv (most, false))) ∧ Fr w.heap.size w wr) (fun i _ => xs.length - (intOf i).toNat)
  case atStart => exact ⟨0, by omega, by go_num, by rw [List.take_zero, hok0]; exact hs0, hf.alloc _⟩
  case round =>
    obtain ⟨m, hm, rfl, hsm, hfm⟩ := hrel
    obtain ⟨g0, g1, f0, f1⟩ := hsm.out.cells
    have hok := szList_ok (xs.take m) lv (most, false)
    have hstop := szList_take lv xs (most, false) m
    have hfin : ¬ m < xs.length → szList xs lv (most, false) = szList (xs.take m) lv (most, false) := fun h => by rw [List.take_of_length_le (by omega)]
    have hsn : ∀ y, xs[m]? = some y → szList (xs.take (m + 1)) lv (most, false) = if (szList (xs.take m) lv (most, false)).2 = true then szList (xs.take m) lv (most, false) else szVal y lv (szList (xs.take m) lv (most, false)) := fun y hy => by
      rw [List.take_add_one, hy]; exact szList_snoc _ _ _ _
    generalize szList (xs.take m) lv (most, false) = p at *
    obtain ⟨p1, p2⟩ := p
    simp only at hok g0 g1 hstop
    by_cases hml : m < xs.length
    · cases p2 with
      | true =>
        have Hst := Lib.hid (hstop rfl)
        clear hstop hfin hsn hok
        go_wp2_with fail
        go_ret
        exact ⟨by rw [Hst.out]; rfl, hfm⟩
      | false =>
        obtain ⟨y, hy⟩ : ∃ y, xs[m]? = some y := ⟨_, List.getElem?_eq_getElem hml⟩
        obtain ⟨b, off, v0, v1, v2, v3, v4, v5, rfl, hry, k0, k1, k2, k3, k4, k5⟩ := Hva.out.item hfm.2 hy
        have hih := sizerValue_any hry wr w.heap.size p1 lv (Below.refl _ _) hfm.le (Nat.le_refl _) hsm.out (hok.2 h0 rfl) (by omega) hl1 hl0
        have Hih := Lib.hid hih
        have Hsn := Lib.hid (hsn y hy)
        have hmn : (0 : Int) ≤ m := by omega
        have hmm : (m : Int) < xs.length := by omega
        clear hih hsn hstop hfin hy hry
        go_wp2_with (go_at_call 39; refine (Hih.out).mono ?_; rintro e w2 ⟨rfl, hs2, hk2⟩)
        go_roundw
        case rel => exact ⟨m + 1, by omega, by go_num, by rw [Hsn.out, if_neg (by simp)]; exact hs2, hk2.fr (Nat.le_refl _) hfm⟩
        case measure => simp [intOf] <;> omega
    · have Hf := Lib.hid (hfin hml)
      clear hstop hfin hsn hok
      go_wp2_with fail
      go_ret
      exact ⟨by rw [Hf.out]; rfl, hfm⟩
end Go.Proofs.YtgdedcdjfljcnaaGreatDoor
namespace Go.Proofs.YtgdedcdjfljcnaaGreatDoor
open Go.RowKit

mutual
def slimV : VT → Bool
  | .mk _ _ _ s names items => decide (s.length ≤ 500) && (decide (names.length ≤ 60) && (decide (items.length ≤ 60) && (names.all (fun x => decide (x.length ≤ 60)) && slimL items)))
def slimL : List VT → Bool
  | [] => true
  | x :: t => slimV x && slimL t
end
theorem slimL_all : ∀ l : List VT, slimL l = l.all slimV
  | [] => by rw [slimL]; rfl
  | x :: t => by rw [slimL, slimL_all t]; rfl
theorem all_step {α : Type} {p : α → Bool} {l : List α} {k : Nat} {x : α} (h : (l.take k).all p = true) (hx : l[k]? = some x) (hp : p x = true) : (l.take (k + 1)).all p = true := by
  rw [List.take_add_one, hx]; simp [h, hp]
theorem all_no {α : Type} {p : α → Bool} {l : List α} {k : Nat} {x : α} (hx : l[k]? = some x) (hp : p x = false) : l.all p = false := by
  rw [Bool.eq_false_iff]
  intro h
  have := List.all_eq_true.1 h x (List.mem_of_getElem? hx)
  rw [hp] at this; cases this
theorem ba_sz (l : List UInt8) : (ByteArray.mk l.toArray).size = l.length := by rw [ba_size]
/-- The names of a slice. -/
theorem NamesAt.item {B : Nat} {w w' : World} {A : Option Addr} {ws : List (List UInt8)} (h : NamesAt B w A ws) (hb : Below B w w') {m : Nat} {y : List UInt8} (hy : ws[m]? = some y) :
    ∃ b off, A = some ⟨b, off, none⟩ ∧ w'.cell? ⟨b, off + m, none⟩ = some (.string ⟨y.toArray⟩) := by
  have hne : ws ≠ [] := by rintro rfl; simp at hy
  obtain ⟨b, off, rfl, hbB, hcl⟩ := h.resolve_left hne
  exact ⟨b, off, rfl, (hb.cell (p := ⟨b, off + m, none⟩) hbB).trans (hcl m y hy)⟩

set_option maxRecDepth 100000 in
theorem slim_any : ∀ (x : VT) (B : Nat) (w : World) (cs : List Value), Rep B w x cs → B ≤ w.heap.size →
    Calls Tryz.prog 64 #[.agg cs.toArray] w fun e w' => e = .returned (.bool (slimV x)) ∧ Fr w.heap.size w w' := by
  intro x
  induction x using VT.ind with
  | h k n e s names items ih =>
    intro B w cs hrep hbs
    cases hrep with
    | mk _ _ _ _ _ _ A ca D cb C hA0 hD0 hAc hDc hk hn he hs hA hx hln hli hi hr =>
    have hsz := ba_sz s
    have hln' : names.length ≤ 9223372036854775807 := hln
    have hli' : items.length ≤ 9223372036854775807 := hli
    have hs' : s.length ≤ 9223372036854775807 := hs
    have hf := Fr.self w
    have hfa := hf.alloc (.cells #[.int .i64 k, .int .i64 n, .int .i64 e, .string ⟨s.toArray⟩, .slice A names.length ca, .slice D items.length cb] 44)
    have Hva : Hid (ValsAt B w (.slice D items.length cb) items) := ⟨D, cb, rfl, hD0, hDc, hli, C, hi, hr⟩
    have HA := Lib.hid hA; have Hx := Lib.hid hx
    have Ih := Lib.hid ih
    clear hi hr ih hA hx hs hln hli
    by_cases h1 : 500 < s.length
    · have hv : slimV (.mk k n e s names items) = false := by rw [slimV, decide_eq_false (by omega)]; rfl
      have Hv := Lib.hid hv; clear hv
      go_enter Tryz.func64, Tryz.ntmps64
      go_wp2_with fail
      go_ret
      exact ⟨by rw [Hv.out]; rfl, hfa⟩
    · by_cases h2 : 60 < names.length
      · have hv : slimV (.mk k n e s names items) = false := by rw [slimV, decide_eq_false (show ¬ names.length ≤ 60 by omega)]; simp
        have Hv := Lib.hid hv; clear hv
        go_enter Tryz.func64, Tryz.ntmps64
        go_wp2_with fail
        go_ret
        exact ⟨by rw [Hv.out]; rfl, hfa⟩
      · by_cases h3 : 60 < items.length
        · have hv : slimV (.mk k n e s names items) = false := by rw [slimV, decide_eq_false (show ¬ items.length ≤ 60 by omega)]; simp
          have Hv := Lib.hid hv; clear hv
          go_enter Tryz.func64, Tryz.ntmps64
          go_wp2_with fail
          go_ret
          exact ⟨by rw [Hv.out]; rfl, hfa⟩
        · have hv : slimV (.mk k n e s names items) = (names.all (fun x => decide (x.length ≤ 60)) && items.all slimV) := by
            rw [slimV, slimL_all, decide_eq_true (show s.length ≤ 500 by omega), decide_eq_true (show names.length ≤ 60 by omega), decide_eq_true (show items.length ≤ 60 by omega)]; rfl
          have Hv := Lib.hid hv; clear hv
          go_enter Tryz.func64, Tryz.ntmps64
          go_wp2_with fail
          have cA : (w.alloc (.cells #[.int .i64 k, .int .i64 n, .int .i64 e, .string ⟨s.toArray⟩, .slice A names.length ca, .slice D items.length cb] 44)).cell? ⟨w.heap.size, 4, none⟩ = some (.slice A names.length ca) := cell_new w _ _ 4
          go_loop [3] (fun i => ∃ m : Nat, m ≤ names.length ∧ i = .int .i64 m ∧ Hid ((names.take m).all (fun x => decide (x.length ≤ 60)) = true)) (fun i => names.length - (intOf i).toNat)
          case atStart => exact ⟨0, by omega, by go_num, rfl⟩
          case round =>
            obtain ⟨m, hm, rfl, HR⟩ := hrel
            by_cases hml : m < names.length
            · obtain ⟨y, hy⟩ : ∃ y, names[m]? = some y := ⟨_, List.getElem?_eq_getElem hml⟩
              obtain ⟨b, off, rfl, c0⟩ := NamesAt.item (B := B) HA.out (hfa.2.mono hbs) hy
              have hyl := Hx.out y (List.mem_of_getElem? hy)
              have hyl' : y.length ≤ 9223372036854775807 := hyl
              have hys := ba_sz y
              have hmn : (0 : Int) ≤ m := by omega
              have hmm : (m : Int) < names.length := by omega
              by_cases hy60 : 60 < y.length
              · have hno := Lib.hid (all_no (p := fun x => decide (x.length ≤ 60)) hy (decide_eq_false (by omega)))
                clear hy hyl
                go_wp2_with fail
                go_ret
                exact ⟨by rw [Hv.out, hno.out]; rfl, hfa⟩
              · have hst := Lib.hid (all_step HR.out hy (decide_eq_true (by omega)))
                clear hy hyl
                go_wp2_with fail
                go_round
                case rel => exact ⟨m + 1, by omega, by go_num, hst⟩
                case measure => simp [intOf] <;> omega
            · have hall : names.all (fun x => decide (x.length ≤ 60)) = true := by have := HR.out; rwa [List.take_of_length_le (by omega)] at this
              have Hall := Lib.hid hall; clear hall
              go_wp2_with fail
              go_loopw [4] (fun i wr => ∃ m : Nat, m ≤ items.length ∧ i = .int .i64 m ∧ Hid ((items.take m).all slimV = true) ∧ Fr (w.heap.size + 1) (w.alloc (.cells #[.int .i64 k, .int .i64 n, .int .i64 e, .string ⟨s.toArray⟩, .slice A names.length ca, .slice D items.length cb] 44)) wr) (fun i _ => items.length - (intOf i).toNat)
              case atStart => exact ⟨0, by omega, by go_num, rfl, by have := Fr.self (w.alloc (.cells #[.int .i64 k, .int .i64 n, .int .i64 e, .string ⟨s.toArray⟩, .slice A names.length ca, .slice D items.length cb] 44)); simpa using this⟩
              case round =>
                obtain ⟨m, hm, rfl, HR2, hfm⟩ := hrel
                have cD : wr.cell? ⟨w.heap.size, 5, none⟩ = some (.slice D items.length cb) := (hfm.cell (p := ⟨w.heap.size, 5, none⟩) (by simp)).trans (cell_new w _ _ 5)
                have hfw : Fr w.heap.size w wr := ⟨hf.1, hfa.2.trans (hfm.2.mono (by omega))⟩
                by_cases hml : m < items.length
                · obtain ⟨y, hy⟩ : ∃ y, items[m]? = some y := ⟨_, List.getElem?_eq_getElem hml⟩
                  have hbw : Below B w wr := hfw.2.mono hbs
                  obtain ⟨b, off, v0, v1, v2, v3, v4, v5, rfl, hry, k0, k1, k2, k3, k4, k5⟩ := Hva.out.item hbw hy
                  have hih := Ih.out y (List.mem_of_getElem? hy) B wr _ hry (Nat.le_trans hbs hfw.le)
                  have hmn : (0 : Int) ≤ m := by omega
                  have hmm : (m : Int) < items.length := by omega
                  have hfm1 : w.heap.size + 1 ≤ wr.heap.size := hfm.le
                  rcases hsy : slimV y with _ | _
                  · rw [hsy] at hih
                    have Hih := Lib.hid hih
                    have hno := Lib.hid (all_no hy hsy)
                    clear hih hy hry hsy
                    go_wp2_with (go_at_call 64; refine (Hih.out).mono ?_; rintro e w2 ⟨rfl, hf2⟩)
                    go_ret
                    exact ⟨by rw [Hv.out, Hall.out, hno.out]; rfl, hfw.trans hf2⟩
                  · rw [hsy] at hih
                    have Hih := Lib.hid hih
                    have hst := Lib.hid (all_step HR2.out hy hsy)
                    clear hih hy hry hsy
                    go_wp2_with (go_at_call 64; refine (Hih.out).mono ?_; rintro e w2 ⟨rfl, hf2⟩)
                    go_roundw
                    case rel => exact ⟨m + 1, by omega, by go_num, hst, hfm.trans hf2⟩
                    case measure => simp [intOf] <;> omega
                · have hall2 : items.all slimV = true := by have := HR2.out; rwa [List.take_of_length_le (by omega)] at this
                  have Hall2 := Lib.hid hall2; clear hall2
                  go_wp2_with fail
                  go_ret
                  exact ⟨by rw [Hv.out, Hall.out, Hall2.out]; rfl, hfw⟩

/-- One value alone, in a slice of the call's own. -/
theorem vals_one {w : World} {B : Nat} {x : VT} {cs : List Value} (h : Rep B w x cs) (hB : B ≤ w.heap.size) (t : TypeId) : ValsAt (w.heap.size + 1) (w.alloc (.cells cs.toArray t)) (.slice (some ⟨w.heap.size, 0, none⟩) 1 1) [x] := by
  refine ⟨_, _, rfl, fun h => (by cases h), Nat.le_refl _, by unfold maxLen; simp, fun _ => cs, .inr ⟨w.heap.size, 0, rfl, by omega, fun i y hy j u hu => ?_⟩, fun i y hy => ?_⟩
  · have hi : i = 0 := by have := (List.getElem?_eq_some_iff.1 hy).1; simp at this; exact this
    subst hi
    have e : 0 + 0 * 6 + j = j := by omega
    rw [e, cell_new]
    simpa using hu
  · have hi : i = 0 := by have := (List.getElem?_eq_some_iff.1 hy).1; simp at this; exact this
    subst hi
    simp at hy
    subst hy
    exact Rep.mono (by omega) (Rep.keep ((Below.refl B w).alloc hB _) h)
def fewV (x : VT) : Bool := !(szList [x] 12 (400, false)).2 && slimV x
set_option maxRecDepth 100000 in
theorem few_any (x : VT) (w : World) (cs : List Value) (hrep : Rep w.heap.size w x cs) :
    Calls Tryz.prog 40 #[.agg cs.toArray] w fun e w' => e = .returned (.bool (fewV x)) ∧ Fr w.heap.size w w' := by
  have hf := Fr.self w
  obtain ⟨k, n, e, s, A, la, ca, D, ld, cb, rfl⟩ := hrep.agg
  have Hli : Hid (∀ (o : Obj), Calls Tryz.prog 63 #[.slice (some ⟨w.heap.size + 1, 0, none⟩) 1 1, .int .i64 400, .int .i64 12] ((w.alloc o).alloc (.cells #[.int .i64 k, .int .i64 n, .int .i64 e, .string s, .slice A la ca, .slice D ld cb] 44)) fun e w' => e = .returned (.bool (!(szList [x] 12 (400, false)).2)) ∧ Fr (w.heap.size + 1) (w.alloc o) w') := fun o => by
    have hf1 := hf.alloc o
    have hv := vals_one (Rep.keep hf1.2 hrep) hf1.le 44
    have e1 : (w.alloc o).heap.size = w.heap.size + 1 := by simp
    have e2 : ((w.alloc o).alloc (.cells #[.int .i64 k, .int .i64 n, .int .i64 e, .string s, .slice A la ca, .slice D ld cb] 44)).heap.size = w.heap.size + 1 + 1 := by simp
    rw [e1] at hv
    rw [← e2] at hv
    exact (isLight_any hv 400 12 (by omega) (by omega) (by omega) (by omega)).mono fun e w' h => ⟨h.1, ((Fr.refl (w := w.alloc o) (by rw [e1]; omega)).alloc _).trans h.2⟩
  have Hsl : Hid (∀ (w1 : World), Fr w.heap.size w w1 → Calls Tryz.prog 64 #[.agg #[.int .i64 k, .int .i64 n, .int .i64 e, .string s, .slice A la ca, .slice D ld cb]] w1 fun e w' => e = .returned (.bool (slimV x)) ∧ Fr w1.heap.size w1 w') := fun w1 hf1 => slim_any x w.heap.size w1 _ (Rep.keep hf1.2 hrep) hf1.le
  have hfv : fewV x = (!(szList [x] 12 (400, false)).2 && slimV x) := rfl
  have Hfv := Lib.hid hfv
  generalize fewV x = r at *
  generalize (szList [x] 12 (400, false)).2 = a at *
  generalize slimV x = b at *
  clear hrep hfv
  cases a with
  | true =>
    go_enter Tryz.func40, Tryz.ntmps40
    go_wp2_with fail
    refine (Hli.out _).mono ?_
    rintro e w1 ⟨rfl, hf1⟩
    go_wp2_with fail
    go_ret
    exact ⟨by rw [Hfv.out]; rfl, hf.1, (hf.alloc _).2.trans (hf1.2.mono (by omega))⟩
  | false =>
    go_enter Tryz.func40, Tryz.ntmps40
    go_wp2_with fail
    refine (Hli.out _).mono ?_
    rintro e w1 ⟨rfl, hf1⟩
    have c0 : w1.cell? ⟨w.heap.size, 0, none⟩ = some (.int .i64 k) := (hf1.cell (p := ⟨w.heap.size, 0, none⟩) (by simp)).trans (cell_new w _ _ 0)
    have c1 : w1.cell? ⟨w.heap.size, 1, none⟩ = some (.int .i64 n) := (hf1.cell (p := ⟨w.heap.size, 1, none⟩) (by simp)).trans (cell_new w _ _ 1)
    have c2 : w1.cell? ⟨w.heap.size, 2, none⟩ = some (.int .i64 e) := (hf1.cell (p := ⟨w.heap.size, 2, none⟩) (by simp)).trans (cell_new w _ _ 2)
    have c3 : w1.cell? ⟨w.heap.size, 3, none⟩ = some (.string s) := (hf1.cell (p := ⟨w.heap.size, 3, none⟩) (by simp)).trans (cell_new w _ _ 3)
    have c4 : w1.cell? ⟨w.heap.size, 4, none⟩ = some (.slice A la ca) := (hf1.cell (p := ⟨w.heap.size, 4, none⟩) (by simp)).trans (cell_new w _ _ 4)
    have c5 : w1.cell? ⟨w.heap.size, 5, none⟩ = some (.slice D ld cb) := (hf1.cell (p := ⟨w.heap.size, 5, none⟩) (by simp)).trans (cell_new w _ _ 5)
    have hfw : Fr w.heap.size w w1 := ⟨hf.1, (hf.alloc _).2.trans (hf1.2.mono (by omega))⟩
    go_wp2_with fail
    refine (Hsl.out _ hfw).mono ?_
    rintro e w2 ⟨rfl, hf2⟩
    go_wp2_with fail
    go_ret
    exact ⟨by rw [Hfv.out]; rfl, hfw.trans hf2⟩
end Go.Proofs.YtgdedcdjfljcnaaGreatDoor
