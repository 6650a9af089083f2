/- Copies of a constraint's nodes: rows of nodes of the call's own; OwnLimits. -/
import Derived.Test.YtgdedcdjfljcnaaGreatDoorM10
import Derived.Test.YtgdedcdjfljcnaaGreatDoorM39
import Derived.Test.YtgdedcdjfljcnaaGreatDoorM04
namespace Go.Proofs.YtgdedcdjfljcnaaGreatDoor
open Go.RowKit

/-- A node's five cells, its operands in blocks of a kind. -/
def NodeC (S : Nat → Prop) (w : World) (x : LN) (cs : List Value) : Prop :=
  ∃ A ca, cs = x.cells A ca ∧ (x.args = [] ∨ ∃ b off, A = some ⟨b, off, none⟩ ∧ S b ∧ ∀ j y, x.args[j]? = some y → w.cell? ⟨b, off + j, none⟩ = some (.int .i64 y)) ∧ x.args.length ≤ ca ∧ (A = none → ca = 0)
theorem NodeC.keep {S T : Nat → Prop} {w w' : World} {x : LN} {cs : List Value} (h : NodeC S w x cs) (hb : Stay S w w') (hT : ∀ b, S b → T b) : NodeC T w' x cs := by
  obtain ⟨A, ca, h1, h2, h3⟩ := h
  refine ⟨A, ca, h1, ?_, h3⟩
  rcases h2 with h2 | ⟨b, off, e, hs, hc⟩
  · exact .inl h2
  · exact .inr ⟨b, off, e, hT b hs, fun j y hy => (hb.cell (p := ⟨b, off + j, none⟩) hs).trans (hc j y hy)⟩
theorem NodeC.five {S : Nat → Prop} {w : World} {x : LN} {cs : List Value} (h : NodeC S w x cs) : cs.length = 5 := by
  obtain ⟨A, ca, rfl, -⟩ := h; rfl
/-- Nodes that any memory may hold. -/
def NodeOk (x : LN) : Prop := InI x.kind ∧ InI x.lo ∧ InI x.hi ∧ x.text.length ≤ maxLen
/-- Nodes so far, in a row of the call's own. -/
def RowN (w0 w : World) (v : Value) (xs : List LN) : Prop :=
  ∃ css : List (List Value), css.length = xs.length ∧ w.ownsRow w0.heap.size 66 5 v xs.length css.flatten ∧ ∀ (i : Nat) (y : LN) (c : List Value), xs[i]? = some y → css[i]? = some c → NodeC (fun b => Fresh w0 w b ∧ some b ≠ v.ownBlock) w y c
theorem flat5_at {css : List (List Value)} (h5 : ∀ c ∈ css, c.length = 5) {i : Nat} {c : List Value} (hi : css[i]? = some c) {j : Nat} {u : Value} (hj : c[j]? = some u) : css.flatten[i * 5 + j]? = some u := by
  induction css generalizing i with
  | nil => simp at hi
  | cons d css ih =>
    have hd := h5 d (by simp)
    cases i with
    | zero =>
      simp at hi
      subst hi
      have := (List.getElem?_eq_some_iff.1 hj).1
      rw [List.flatten_cons, Nat.zero_mul, Nat.zero_add, List.getElem?_append_left this]; exact hj
    | succ i =>
      rw [List.flatten_cons, List.getElem?_append_right (by omega)]
      have := ih (fun c hc => h5 c (by simp [hc])) (by simpa using hi)
      rw [← this]; congr 1; omega
theorem RowN.lim {w0 w : World} {v : Value} {xs : List LN} (h : RowN w0 w v xs) (hok : ∀ x ∈ xs, NodeOk x) : ∃ A c, v = .slice A xs.length c ∧ (A = none → c = 0) ∧ LimAt w.heap.size w A xs ∧ (xs ≠ [] → ∃ g, A = some ⟨g, 0, none⟩ ∧ w0.heap.size ≤ g) := by
  obtain ⟨css, hc, hown, hr⟩ := h
  have h5 : ∀ c ∈ css, c.length = 5 := by
    intro c hcm
    obtain ⟨i, hi⟩ := List.mem_iff_getElem?.1 hcm
    have hil := (List.getElem?_eq_some_iff.1 hi).1
    obtain ⟨y, hy⟩ : ∃ y, xs[i]? = some y := ⟨_, List.getElem?_eq_getElem (by omega)⟩
    exact (hr i y c hy hi).five
  rcases row_cases hown with ⟨rfl, hn, -⟩ | ⟨g, cap, rfl, hg1, hg2, hgc, hcells⟩
  · have : xs = [] := List.eq_nil_of_length_eq_zero hn
    subst this
    exact ⟨none, 0, rfl, fun _ => rfl, .inl rfl, fun h => absurd rfl h⟩
  · have key : ∀ i, i < xs.length → ∃ p : Option Addr × Nat, ∀ y, xs[i]? = some y → NodeRep w.heap.size w y p.1 p.2 ∧ ∀ j u, (y.cells p.1 p.2)[j]? = some u → w.cell? ⟨g, 0 + i * 5 + j, none⟩ = some u := by
      intro i hi
      obtain ⟨y, hy⟩ : ∃ y, xs[i]? = some y := ⟨_, List.getElem?_eq_getElem hi⟩
      obtain ⟨c, hci⟩ : ∃ c, css[i]? = some c := ⟨_, List.getElem?_eq_getElem (by omega)⟩
      obtain ⟨A, ca, rfl, ha, hl, h0⟩ := hr i y c hy hci
      refine ⟨(A, ca), fun y' hy' => ?_⟩
      rw [hy] at hy'
      injection hy' with hy'
      subst hy'
      obtain ⟨o1, o2, o3, o4⟩ := hok y (List.mem_of_getElem? hy)
      refine ⟨⟨?_, hl, h0, o1, o2, o3, o4⟩, fun j u hu => ?_⟩
      · rcases ha with ha | ⟨b, off, e, hs, hcl⟩
        · exact .inl ha
        · exact .inr ⟨b, off, e, hs.1.2, hcl⟩
      · rw [Nat.zero_add]
        exact hcells _ _ (flat5_at h5 hci hu)
    obtain ⟨ps, hps, hpp⟩ := list_of_all xs.length key
    refine ⟨some ⟨g, 0, none⟩, cap, rfl, (fun h => by cases h), .inr ⟨g, 0, fun i => (ps[i]?).getD (none, 0), rfl, hg2, fun i x hx => ?_, fun i x hx => ?_⟩, fun _ => ⟨g, rfl, hg1⟩⟩
    · have hi := (List.getElem?_eq_some_iff.1 hx).1
      obtain ⟨p, hp⟩ : ∃ p, ps[i]? = some p := ⟨_, List.getElem?_eq_getElem (by omega)⟩
      simp only [hp, Option.getD_some]
      exact (hpp i p hp x hx).1
    · have hi := (List.getElem?_eq_some_iff.1 hx).1
      obtain ⟨p, hp⟩ : ∃ p, ps[i]? = some p := ⟨_, List.getElem?_eq_getElem (by omega)⟩
      simp only [hp, Option.getD_some]
      exact (hpp i p hp x hx).2
theorem rowN_nil (w0 w : World) : RowN w0 w (.slice none 0 0) [] := ⟨[], rfl, ⟨rfl, .inl ⟨rfl, rfl⟩⟩, fun i y c h => by simp at h⟩
theorem own_block {w w' : World} {base : Nat} {e : TypeId} {size n : Nat} {v : Value} {xs : List Value} (h : w.ownsRow base e size v n xs) (hb : ∀ b, v.ownBlock = some b → w'.heap[b]? = w.heap[b]?) : w'.ownsRow base e size v n xs := by
  obtain ⟨h1, h2⟩ := h
  refine ⟨h1, ?_⟩
  rcases h2 with h | ⟨g, cap, cur, hv, hg, hh, hr⟩
  · exact .inl h
  · exact .inr ⟨g, cap, cur, hv, hg, (hb g (by rw [hv]; rfl)).trans hh, hr⟩
/-- One more node behind a row. -/
theorem rowN_snoc {w0 w2 w3 : World} {u v' : Value} {xs : List LN} {y : LN} {cs : List Value} {css : List (List Value)} (hcl : css.length = xs.length)
    (hrr : ∀ (i : Nat) (y : LN) (c : List Value), xs[i]? = some y → css[i]? = some c → NodeC (fun b => Fresh w0 w2 b ∧ some b ≠ u.ownBlock) w2 y c) (hn : NodeC (fun b => Fresh w0 w2 b ∧ some b ≠ u.ownBlock) w2 y cs)
    (hblk : ∀ b, b < w2.heap.size → some b ≠ u.ownBlock → w3.heap[b]? = w2.heap[b]?) (hsz : w2.heap.size ≤ w3.heap.size) (hat : v'.ownBlock = u.ownBlock ∨ v'.ownBlock = some w2.heap.size)
    (hown3 : w3.ownsRow w0.heap.size 66 5 v' (xs.length + 1) (css.flatten ++ cs)) : RowN w0 w3 v' (xs ++ [y]) := by
  have hmv : ∀ b, (Fresh w0 w2 b ∧ some b ≠ u.ownBlock) → Fresh w0 w3 b ∧ some b ≠ v'.ownBlock := fun b hb => by
    refine ⟨⟨hb.1.1, Nat.lt_of_lt_of_le hb.1.2 hsz⟩, fun e => ?_⟩
    rcases hat with hat | hat
    · rw [hat] at e; exact hb.2 e
    · rw [hat] at e; injection e with e; have := hb.1.2; omega
  refine ⟨css ++ [cs], by simp [hcl], ?_, fun i y' c hy' hc => ?_⟩
  · rw [List.flatten_append, List.length_append]
    simpa using hown3
  · by_cases him : i < xs.length
    · rw [List.getElem?_append_left him] at hy'
      rw [List.getElem?_append_left (by omega)] at hc
      exact (hrr i y' c hy' hc).keep (fun b hb => hblk b hb.1.2 hb.2) hmv
    · have hil := (List.getElem?_eq_some_iff.1 hy').1
      rw [List.length_append] at hil
      simp at hil
      obtain rfl : i = xs.length := by omega
      rw [List.getElem?_append_right (by omega)] at hy'
      rw [List.getElem?_append_right (by omega), hcl] at hc
      simp at hy' hc
      subst hy'; subst hc
      exact hn.keep (fun b hb => hblk b hb.1.2 hb.2) hmv
theorem argRows {B : Nat} {w : World} {A : Option Addr} {l : List Int} (h : ArgAt B w A l) : RowsS (fun b => b < B) w 1 A l.length (itemCells (fun a => [.int .i64 a]) l) := by
  rcases h with rfl | ⟨b, off, h1, h2, h3⟩
  · exact .inl rfl
  · refine .inr ⟨b, off, h1, h2, fun i hi j u hu => ?_⟩
    obtain ⟨x, hx⟩ : ∃ x, l[i]? = some x := ⟨_, List.getElem?_eq_getElem hi⟩
    unfold itemCells at hu
    rw [hx] at hu
    rcases j with _ | j
    · cases hu
      rw [Nat.mul_one, Nat.add_zero]
      exact h3 i x hx
    · simp at hu
theorem lim_info : (Tryz.prog.info? 66).map (fun i => (i.zero, i.size, i.bytes)) = some (some (.agg #[.int .i64 0, .int .i64 0, .int .i64 0, .string ⟨#[]⟩, .slice none 0 0]), 5, 64) := by kernel_rfl
theorem node_one (x : LN) (A : Option Addr) (ca : Nat) : ∀ u ∈ x.cells A ca, u.oneCell' = true := by
  intro u hu
  simp [LN.cells] at hu
  rcases hu with rfl | rfl | rfl | rfl | rfl <;> rfl
set_option maxRecDepth 100000 in
set_option maxHeartbeats 2000000 in
theorem ownLimits_any {B : Nat} (l : List LN) (A : Option Addr) (ca : Nat) (w : World) (h : LimAt B w A l) (hB : B ≤ w.heap.size) (hm : l.length ≤ 1000) (ha : ∀ x ∈ l, x.args.length ≤ 1000) :
    Calls Tryz.prog 29 #[.slice A l.length ca] w fun e w' => (∃ v, e = .returned v ∧ RowN w w' v l) ∧ Fr w.heap.size w w' := by
  have H := Lib.hid h; have Ha := Lib.hid ha
  obtain ⟨i0, hi0, hz0, hz1, hz2⟩ := info_of lim_info
  clear h ha
  go_enter Tryz.func29, Tryz.ntmps29
  go_wp2_with fail
  go_loopw [3, 4] (fun u i wr => ∃ m : Nat, m ≤ l.length ∧ i = .int .i64 m ∧ Hid (RowN w wr u (l.take m)) ∧ Fr w.heap.size w wr) (fun _ i _ => l.length - (intOf i).toNat)
  case atStart => exact ⟨0, by omega, by go_num, rowN_nil _ _, Fr.self w⟩
  case round =>
    obtain ⟨m, hml, rfl, hrow, hfm⟩ := hrel
    by_cases hlt : m < l.length
    · obtain ⟨x, hx⟩ : ∃ x, l[m]? = some x := ⟨_, List.getElem?_eq_getElem hlt⟩
      have hLw := H.out.keep (w' := wr) (hfm.2.mono hB)
      obtain ⟨b, off, rfl, -⟩ := hLw.addr hx
      obtain ⟨-, A2, ca2, hrep, k0, k1, k2, k3, k4⟩ := hLw.item hx
      have hxa := Ha.out x (List.mem_of_getElem? hx)
      have htk : l.take (m + 1) = l.take m ++ [x] := by rw [List.take_add_one, hx]; rfl
      have Htk := Lib.hid htk
      have hmn : (0 : Int) ≤ m := by omega
      have hmm : (m : Int) < l.length := by omega
      have hml2 : (l.take m).length = m := by rw [List.length_take]; omega
      obtain ⟨css, hcl, hown, hrr⟩ := hrow.out
      rw [hml2] at hcl hown
      have hlt2 := fun g => own_lt hown (g := g)
      obtain ⟨k, lo, hi, t, args⟩ := x
      simp only at k0 k1 k2 k3 k4 hxa
      have hf1 := (Fr.self wr).alloc (.cells #[.int .i64 k, .int .i64 lo, .int .i64 hi, .string ⟨t.toArray⟩, .slice A2 args.length ca2] 66)
      have hoi := ownInts_any (S := fun b => b < B) args A2 ca2 (wr.alloc (.cells #[.int .i64 k, .int .i64 lo, .int .i64 hi, .string ⟨t.toArray⟩, .slice A2 args.length ca2] 66)) hrep.nil ((argRows hrep.args).keep (Below.stay (hf1.2.mono (Nat.le_trans hB hfm.2.size))) (fun _ h => h)) hxa
      have Hoi := Lib.hid hoi
      have hbx := fun j => cell_new wr #[.int .i64 k, .int .i64 lo, .int .i64 hi, .string ⟨t.toArray⟩, .slice A2 args.length ca2] 66 j
      have hbz := fun j => frozen_new wr #[.int .i64 k, .int .i64 lo, .int .i64 hi, .string ⟨t.toArray⟩, .slice A2 args.length ca2] 66 j
      have hsz1 : (wr.alloc (.cells #[.int .i64 k, .int .i64 lo, .int .i64 hi, .string ⟨t.toArray⟩, .slice A2 args.length ca2] 66)).heap.size = wr.heap.size + 1 := by simp
      have Hbx := Lib.hid hbx; have Hbz := Lib.hid hbz; have Hrr := Lib.hid hrr; have Hown := Lib.hid hown; have Hlt2 := Lib.hid hlt2
      clear hoi hx hrep hLw htk hbx hbz hrr hown hlt2
      go_wp2_with fail
      refine (Hoi.out).mono ?_
      rintro e w2 ⟨⟨A3, ca3, rfl, hok3, hr3⟩, hf2⟩
      have n0 : w2.cell? ⟨wr.heap.size, 0, none⟩ = some (.int .i64 k) := (hf2.cell (p := ⟨wr.heap.size, 0, none⟩) (by simp)).trans (Hbx.out 0)
      have n1 : w2.cell? ⟨wr.heap.size, 1, none⟩ = some (.int .i64 lo) := (hf2.cell (p := ⟨wr.heap.size, 1, none⟩) (by simp)).trans (Hbx.out 1)
      have n2 : w2.cell? ⟨wr.heap.size, 2, none⟩ = some (.int .i64 hi) := (hf2.cell (p := ⟨wr.heap.size, 2, none⟩) (by simp)).trans (Hbx.out 2)
      have n3 : w2.cell? ⟨wr.heap.size, 3, none⟩ = some (.string ⟨t.toArray⟩) := (hf2.cell (p := ⟨wr.heap.size, 3, none⟩) (by simp)).trans (Hbx.out 3)
      have n4 : w2.cell? ⟨wr.heap.size, 4, none⟩ = some (.slice A2 args.length ca2) := (hf2.cell (p := ⟨wr.heap.size, 4, none⟩) (by simp)).trans (Hbx.out 4)
      have z4 : w2.frozen? ⟨wr.heap.size, 4, none⟩ = false := (hf2.frozen (p := ⟨wr.heap.size, 4, none⟩) (by simp)).trans (Hbz.out 4)
      have hsz2 : wr.heap.size + 1 ≤ w2.heap.size := by have := hf2.2.size; omega
      have Hr3 := Lib.hid hr3; have Hok3 := Lib.hid hok3
      have hF2 : Fr w.heap.size w (w2.setCell ⟨wr.heap.size, 4, none⟩ (.slice A3 args.length ca3)) := ((hfm.trans hf1).trans hf2).setCell (p := ⟨wr.heap.size, 4, none⟩) hfm.2.size _
      have hown2 : (w2.setCell ⟨wr.heap.size, 4, none⟩ (.slice A3 args.length ca3)).ownsRow w.heap.size 66 5 u3 m css.flatten := by
        refine own_block (Hown.out) fun b hb => ?_
        rw [Below.heap_setCell _ _ _ _ (by have := (Hlt2.out b hb).2; show b ≠ wr.heap.size; omega)]
        exact ((hf1.trans hf2).2.block b (Hlt2.out b hb).2)
      have hst : ∀ b, b < wr.heap.size → (w2.setCell ⟨wr.heap.size, 4, none⟩ (.slice A3 args.length ca3)).heap[b]? = wr.heap[b]? := fun b hb => by
        rw [Below.heap_setCell _ _ _ _ (by show b ≠ wr.heap.size; omega)]
        exact (hf1.trans hf2).2.block b hb
      have hst2 : ∀ b, wr.heap.size + 1 ≤ b → (w2.setCell ⟨wr.heap.size, 4, none⟩ (.slice A3 args.length ca3)).heap[b]? = w2.heap[b]? := fun b hb => Below.heap_setCell _ _ _ _ (by show b ≠ wr.heap.size; omega)
      have hs3 : (w2.setCell ⟨wr.heap.size, 4, none⟩ (.slice A3 args.length ca3)).heap.size = w2.heap.size := by simp [World.setCell]
      have Hst := Lib.hid hst; have Hst2 := Lib.hid hst2; have Hown2 := Lib.hid hown2; have Hs3 := Lib.hid hs3; have HF2 := Lib.hid hF2
      have hnews := cells_new (w2.setCell ⟨wr.heap.size, 4, none⟩ (.slice A3 args.length ca3)) #[.int .i64 k, .int .i64 lo, .int .i64 hi, .string ⟨t.toArray⟩, .slice A3 args.length ca3] 66
      rw [hs3] at hnews
      have Hnews := Lib.hid hnews
      have H1 := Lib.hid (node_one ⟨k, lo, hi, t, args⟩ A3 ca3)
      clear hr3 hok3 hst hst2 hown2 hs3 hF2 hnews
      go_wp2_with (at_builtin; refine wpList_append_own_at _ rfl _ _ 26 rfl w.heap.size 66 i0 _ 5 64 Tryz.underlying26 hi0 hz0 hz1 hz2 rfl (by decide) _ _ _ rfl (Hown2.out.alloc _) ⟨w2.heap.size, 0, none⟩ 1 1 [.int .i64 k, .int .i64 lo, .int .i64 hi, .string ⟨t.toArray⟩, .slice A3 args.length ca3] rfl rfl ?d1 ?d2 ?d3 ?d4 ?d5 ?_)
      case d1 => exact Hnews.out
      case d2 => exact H1.out
      case d3 => unfold maxLen; omega
      case d4 => omega
      case d5 => have := hfm.2.size; simp; omega
      intro v' w3 hown3 hg3 _ hat
      have hfr3 : Fr w.heap.size w w3 := (HF2.out.alloc _).grown hg3 (fun g hg => (Hlt2.out g hg).1)
      have hal : ((w2.setCell ⟨wr.heap.size, 4, none⟩ (.slice A3 args.length ca3)).alloc (.cells #[.int .i64 k, .int .i64 lo, .int .i64 hi, .string ⟨t.toArray⟩, .slice A3 args.length ca3] 66)).heap.size = w2.heap.size + 1 := by rw [World.size_alloc, Hs3.out]
      have hrow3 : Hid (RowN w w3 v' (l.take (m + 1))) := by
        rw [Htk.out]
        refine rowN_snoc (w2 := (w2.setCell ⟨wr.heap.size, 4, none⟩ (.slice A3 args.length ca3)).alloc (.cells #[.int .i64 k, .int .i64 lo, .int .i64 hi, .string ⟨t.toArray⟩, .slice A3 args.length ca3] 66)) (u := u3) (cs := [.int .i64 k, .int .i64 lo, .int .i64 hi, .string ⟨t.toArray⟩, .slice A3 args.length ca3]) (by rw [hml2]; exact hcl) ?_ ?_ (fun b hb hne => hg3.block b hb hne) hg3.size ?_ (by rw [hml2]; exact hown3)
        · intro i y c hy hc
          refine (Hrr.out i y c hy hc).keep (fun b hb => (Below.heap_alloc _ _ _ (by rw [Hs3.out]; have := hb.1.2; omega)).trans (Hst.out b hb.1.2)) (fun b hb => ⟨⟨hb.1.1, by rw [hal]; have := hb.1.2; omega⟩, hb.2⟩)
        · refine ⟨A3, ca3, rfl, ?_, Hok3.out.2.1, Hok3.out.1⟩
          by_cases hne : args = []
          · exact .inl hne
          · obtain ⟨g, go, rfl, hs, hc⟩ := rows_ints Hr3.out hne
            have hs1 := hs.1; have hs2 := hs.2
            rw [hsz1] at hs1
            refine .inr ⟨g, go, rfl, ⟨⟨by have := hfm.2.size; omega, by rw [hal]; omega⟩, fun e => by have := (Hlt2.out g e.symm).2; omega⟩, fun j y hy => ?_⟩
            refine (World.cell?_alloc_lt _ _ _ (by rw [Hs3.out]; exact hs2)).trans ((World.cell?_of_block (a := ⟨g, go + j, none⟩) (Hst2.out g hs1)).trans (hc j y hy))
        · rcases hat with h | h
          · exact .inl h
          · exact .inr (by rw [hal]; exact h)
      clear hg3 hown3 hat
      go_wp2_with fail
      go_roundw
      case rel => exact ⟨m + 1, by omega, by go_num, hrow3, hfr3⟩
      case measure => simp [intOf] <;> omega
    · have hrow' : RowN w wr u3 l := by have := hrow.out; rwa [List.take_of_length_le (by omega)] at this
      have Hrow := Lib.hid hrow'
      obtain ⟨css, hcl, hown, -⟩ := hrow'
      obtain ⟨p, cap, rfl⟩ := own_len hown
      clear hrow hown hcl
      go_wp2_with fail
      go_ret
      exact ⟨⟨_, rfl, Hrow.out⟩, hfm⟩
end Go.Proofs.YtgdedcdjfljcnaaGreatDoor
