/- A type of whole numbers with tags and a constraint that is right: CheckLimits. A type of whole numbers with tags and a constraint: its error, the numbers that are permitted, Permits, SpansOf. -/
import Derived.Test.YtgdedcdjfljcnaaGreatDoorM18
import Derived.Test.YtgdedcdjfljcnaaGreatDoorM33
import Derived.Test.YtgdedcdjfljcnaaGreatDoorM35
import Derived.Test.YtgdedcdjfljcnaaGreatDoorM15
namespace Go.Proofs.YtgdedcdjfljcnaaGreatDoor
open Go.RowKit

/-- The parts of a type of whole numbers in memory: right tags, and a right constraint. -/
structure GT (B : Nat) (w : World) (tags : List TG) (TA : Option Addr) (b off : Nat) (l : List LN) (T : CT) : Prop where
  tag : TagAt B w TA tags
  tok : TagsOk tags
  lim : LimAt B w (some ⟨b, off, none⟩) l
  eq : l = T.flat 0
  good : T.good
  size : T.size ≤ 20
theorem GT.keep {B : Nat} {w w' : World} {tags : List TG} {TA : Option Addr} {b off : Nat} {l : List LN} {T : CT} (h : GT B w tags TA b off l T) (hf : Below B w w') : GT B w' tags TA b off l T := { h with tag := h.tag.keep hf, lim := h.lim.keep hf }
theorem GT.mono {B B' : Nat} {w : World} {tags : List TG} {TA : Option Addr} {b off : Nat} {l : List LN} {T : CT} (h : GT B w tags TA b off l T) (hB : B ≤ B') : GT B' w tags TA b off l T := { h with tag := h.tag.mono hB, lim := h.lim.mono hB }
section
variable {B : Nat} {w : World} {tags : List TG} {TA : Option Addr} {b off : Nat} {l : List LN} {T : CT}
theorem GT.length (h : GT B w tags TA b off l T) : l.length = T.size := by rw [h.eq, T.flat_length]
theorem GT.pos (h : GT B w tags TA b off l T) : (0 : Int) < l.length := by have := h.length; have := T.size_pos; omega
theorem GT.leaves (h : GT B w tags TA b off l T) : T.leaves ≤ 10 := by have := T.size_leaves; have := h.size; omega
theorem GT.nums (h : GT B w tags TA b off l T) : T.nums.length ≤ 10 := Nat.le_trans (T.nums_ok h.good).2.2 h.leaves
theorem GT.node (h : GT B w tags TA b off l T) {i : Nat} {x : LN} (hx : l[i]? = some x) : (∃ lo hi, x = ⟨0, lo, hi, [], []⟩ ∧ okB ⟨lo, hi⟩ = true) ∨ ∃ k i i', x = ⟨k, 0, 0, [], [i, i']⟩ ∧ (k = 4 ∨ k = 5 ∨ k = 6) := T.flat_node 0 i x h.good (h.eq ▸ hx)
theorem GT.args (h : GT B w tags TA b off l T) : ∀ x ∈ l, x.args.length ≤ 100000 := fun x hx => by
  obtain ⟨i, hi⟩ := List.mem_iff_getElem?.1 hx
  rcases h.node hi with ⟨lo, hi, rfl, -⟩ | ⟨k, i, i', rfl, -⟩ <;> simp
end
theorem gnumbers {B : Nat} {tags : List TG} {TA : Option Addr} {b off : Nat} {l : List LN} {T : CT} (c : Nat) (w : World) (h : GT B w tags TA b off l T) (hB : B ≤ w.heap.size) :
    Calls Tryz.prog 45 #[.slice (some ⟨b, off, none⟩) l.length c, .int .i64 ((l.length : Int) - 1)] w fun e w' => ∃ A cn, e = .returned (.slice A T.nums.length cn) ∧ (A = none → cn = 0) ∧ SpAt w'.heap.size w' A T.nums ∧ Fr w.heap.size w w' := by
  have hl := h.length
  have := numbersOf_tree l b off c (by have := h.size; omega) T 0 w h.good (by rw [h.eq]; exact SubL.self T) (Nat.le_trans h.leaves (by decide)) h.lim hB
  rw [Nat.zero_add, ← hl] at this
  exact this
theorem nodeError_good {B : Nat} {tags : List TG} {TA : Option Addr} {b off : Nat} {l : List LN} {T : CT} (X1 X2 X3 X4 X5 X6 : Value) (c i : Nat) (w : World) (h : GT B w tags TA b off l T) (hB : B ≤ w.heap.size) (hi : i < l.length) :
    Calls Tryz.prog 74 #[.agg #[.int .i64 2, X1, X2, X3, X4, X5, X6, .slice (some ⟨b, off, none⟩) l.length c], .int .i64 i, .int .i64 1] w fun e w' => e = .returned (.int .i64 0) ∧ Fr w.heap.size w w' := by
  obtain ⟨x, hx⟩ : ∃ x, l[i]? = some x := ⟨_, List.getElem?_eq_getElem hi⟩
  have hl := h.length
  have hs := h.size
  obtain ⟨hbB, A, ca, -, e0, e1, e2, e3, e4⟩ := h.lim.item hx
  have hbw := Nat.lt_of_lt_of_le hbB hB
  rcases h.node hx with ⟨lo, hi', rfl, hok⟩ | ⟨k, j, j', rfl, hk⟩
  · have := okB_in hok
    simp only at this
    exact nodeError_range X1 X2 X3 X4 X5 X6 b off l.length c i lo hi' A 0 ca w hi hbw (by omega) (by omega) (by omega) e0 e1 e2 e3 e4 (by omega)
  · rcases hk with rfl | rfl | rfl
    · exact nodeError_op4 X1 X2 X3 X4 X5 X6 b off l.length c i A 2 ca w hi hbw e0 e1 e2 e3 e4 (by omega)
    · exact nodeError_op5 X1 X2 X3 X4 X5 X6 b off l.length c i A 2 ca w hi hbw e0 e1 e2 e3 e4 (by omega)
    · exact nodeError_op6 X1 X2 X3 X4 X5 X6 b off l.length c i A 2 ca w hi hbw e0 e1 e2 e3 e4 (by omega)
set_option maxRecDepth 100000 in
set_option maxHeartbeats 4000000 in
theorem gCheckLimits {B : Nat} {tags : List TG} {TA : Option Addr} {b off : Nat} {l : List LN} {T : CT} (tc c : Nat) (w : World) (h : GT B w tags TA b off l T) (hB : B ≤ w.heap.size) (hp : PartTy w) :
    Calls Tryz.prog 43 #[.agg #[.int .i64 2, .string ⟨#[]⟩, .slice TA tags.length tc, .slice none 0 0, .bool false, .int .i64 0, .slice none 0 0, .slice (some ⟨b, off, none⟩) l.length c]] w fun e w' => e = .returned (.tuple #[.int .i64 l.length, .int .i64 0]) ∧ Fr w.heap.size w w' := by
  have hf := (Fr.self w).alloc (.cells #[.int .i64 2, .string ⟨#[]⟩, .slice TA tags.length tc, .slice none 0 0, .bool false, .int .i64 0, .slice none 0 0, .slice (some ⟨b, off, none⟩) l.length c] 28)
  have hl := h.length
  have hs := h.size
  have hpos := h.pos
  have hne : l ≠ [] := by rintro rfl; simp at hpos
  have hte : tyErr l = 0 := by unfold tyErr; rw [h.eq, T.tree_ok h.good hs]; rfl
  have Hck := Lib.hid (fun W (hW : Fr w.heap.size w W) => hte ▸ gCheckType_any (B := B) tags TA tc l (some ⟨b, off, none⟩) c W (h.lim.keep (hW.2.mono hB)) (Nat.le_trans hB hW.2.size) (by unfold maxLen; omega) h.args (hp.keep hW.2) (h.tag.keep (hW.2.mono hB)) h.tok)
  have hsu : subj 2 = 1 := rfl
  have Hsu := Lib.hid (fun w => hsu ▸ subjectOf_any 2 w)
  have hargs : ∀ (i : Nat) (x : LN), l[i]? = some x → (∀ a ∈ x.args, 0 ≤ a ∧ a < (i : Int)) ∧ x.args.length ≤ 20 := fun i x hx => by
    refine ⟨fun a ha => ?_, ?_⟩
    · have := T.flat_args 0 i x (h.eq ▸ hx) a ha
      omega
    · rcases h.node hx with ⟨lo, hi, rfl, -⟩ | ⟨k, i, i', rfl, -⟩ <;> simp
  have Hs := Lib.hid (fun W (hW : Fr w.heap.size w W) => (subjects_any (B := B) l (some ⟨b, off, none⟩) c 2 (.string ⟨#[]⟩) (.slice TA tags.length tc) (.slice none 0 0) (.bool false) (.int .i64 0) (.slice none 0 0) W (h.lim.keep (hW.2.mono hB)) (Nat.le_trans hB hW.2.size) (by omega) hargs hne).mono
    (R' := fun e w' => e = .returned (.slice (some ⟨W.heap.size + 1, 0, none⟩) l.length l.length) ∧ Fr W.heap.size W w' ∧ ∀ j, j < l.length → w'.cell? ⟨W.heap.size + 1, j, none⟩ = some (.int .i64 1)) (by
      rintro e w2 ⟨xs, hxl, hxs, rfl, hb2, hrow⟩
      have hx1 := T.subj_ones h.good xs (by omega) (fun k x hk => by
        obtain ⟨g1, g2⟩ := hxs k x hk
        exact ⟨by omega, h.eq ▸ g2⟩)
      rw [← hl] at hx1
      change ∀ (j : Nat) x, (subjAll 2 l.length xs)[j]? = some x → _ at hrow
      rw [hx1] at hrow
      exact ⟨rfl, ⟨Nat.le_refl _, hb2⟩, fun j hj => hrow j 1 (by rw [List.getElem?_replicate, if_pos hj])⟩))
  have Hk := Lib.hid (fun k => cell_new w #[.int .i64 2, .string ⟨#[]⟩, .slice TA tags.length tc, .slice none 0 0, .bool false, .int .i64 0, .slice none 0 0, .slice (some ⟨b, off, none⟩) l.length c] 28 k)
  have Hn := Lib.hid (fun W (hW : Fr w.heap.size w W) i hi => nodeError_good (.string ⟨#[]⟩) (.slice TA tags.length tc) (.slice none 0 0) (.bool false) (.int .i64 0) (.slice none 0 0) c i W (h.keep (hW.2.mono hB)) (Nat.le_trans hB hW.2.size) hi)
  have hl20 : l.length ≤ 20 := by omega
  clear h hp hsu hte hargs hne hl hs
  go_enter Tryz.func43, Tryz.ntmps43
  go_wp2_with fail
  refine (Hck.out _ hf).mono ?_
  rintro e w1 ⟨rfl, hf1⟩
  have hk : ∀ k, w1.cell? ⟨w.heap.size, k, none⟩ = #[.int .i64 2, .string ⟨#[]⟩, .slice TA tags.length tc, .slice none 0 0, .bool false, .int .i64 0, .slice none 0 0, .slice (some ⟨b, off, none⟩) l.length c][k]? := fun k => (hf1.cell (p := ⟨w.heap.size, k, none⟩) (by simp)).trans (Hk.out k)
  have hfw : Fr w.heap.size w w1 := hf.trans hf1
  have hz1 : w.heap.size < w1.heap.size := Nat.lt_of_lt_of_le (by simp) hf1.2.size
  clear hf hf1 Hk
  have k0 := hk 0; have k1 := hk 1; have k2 := hk 2; have k3 := hk 3; have k4 := hk 4; have k5 := hk 5; have k6 := hk 6; have k7 := hk 7
  have Hk := Lib.hid hk
  clear hk
  go_wp2_with (go_at_call 44; refine (Hsu.out _).mono ?_; rintro e w' ⟨rfl, rfl⟩)
  refine (Hs.out _ hfw).mono ?_
  rintro e w2 ⟨rfl, hf2, hrow⟩
  have Hrow := Lib.hid hrow
  have hF2 : Fr w.heap.size w w2 := hfw.trans hf2
  have hz2 : w.heap.size < w2.heap.size := Nat.lt_of_lt_of_le hz1 hf2.2.size
  have hz3 : w1.heap.size + 1 < w2.heap.size := cell_block (hrow 0 (by omega))
  have hKK : ∀ k, w2.cell? ⟨w.heap.size, k, none⟩ = #[.int .i64 2, .string ⟨#[]⟩, .slice TA tags.length tc, .slice none 0 0, .bool false, .int .i64 0, .slice none 0 0, .slice (some ⟨b, off, none⟩) l.length c][k]? := fun k => (hf2.cell (p := ⟨w.heap.size, k, none⟩) hz1).trans (Hk.out k)
  have HKK := Lib.hid hKK
  clear hKK Hk k0 k1 k2 k3 k4 k5 k6 k7 hf2 hfw hrow
  go_wp2_with fail
  go_loopw [26] (fun i wr => ∃ m : Nat, m ≤ l.length ∧ i = .int .i64 m ∧ Fr w.heap.size w wr ∧ Fr w2.heap.size w2 wr) (fun i _ => l.length - (intOf i).toNat)
  case atStart => exact ⟨0, by omega, by go_num, hF2, Fr.self w2⟩
  case round =>
    obtain ⟨m, hm, rfl, hfr, hfr2⟩ := hrel
    have hk := fun k => (hfr2.cell (p := ⟨w.heap.size, k, none⟩) hz2).trans (HKK.out k)
    have k0 := hk 0; have k1 := hk 1; have k2 := hk 2; have k3 := hk 3; have k4 := hk 4; have k5 := hk 5; have k6 := hk 6; have k7 := hk 7
    clear hk
    by_cases hlt : m < l.length
    · have r1 := (hfr2.cell (p := ⟨w1.heap.size + 1, m, none⟩) hz3).trans (Hrow.out m hlt)
      have hmn : (0 : Int) ≤ m := by omega
      have hmm : (m : Int) < l.length := by omega
      go_wp2_with fail
      refine (Hn.out _ hfr m hlt).mono ?_
      rintro e w3 ⟨rfl, hf3⟩
      clear k0 k1 k2 k3 k4 k5 k6 k7 r1
      go_wp2_with fail
      go_roundw
      case rel => exact ⟨m + 1, by omega, by go_num, hfr.trans hf3, hfr2.trans hf3⟩
      case measure => simp [intOf] <;> omega
    · obtain rfl : m = l.length := by omega
      go_wp2_with fail
      go_ret2
      exact ⟨rfl, hfr⟩
end Go.Proofs.YtgdedcdjfljcnaaGreatDoor
namespace Go.Proofs.YtgdedcdjfljcnaaGreatDoor
open Go.RowKit

set_option maxRecDepth 100000 in
theorem gtypeError {B : Nat} {tags : List TG} {TA : Option Addr} {b off : Nat} {l : List LN} {T : CT} (tc c : Nat) (w : World) (h : GT B w tags TA b off l T) (hB : B ≤ w.heap.size) (hp : PartTy w) :
    Calls Tryz.prog 24 #[.agg #[.int .i64 2, .string ⟨#[]⟩, .slice TA tags.length tc, .slice none 0 0, .bool false, .int .i64 0, .slice none 0 0, .slice (some ⟨b, off, none⟩) l.length c]] w fun e w' => e = .returned (.int .i64 0) ∧ Fr w.heap.size w w' := by
  have hf := (Fr.self w).alloc (.cells #[.int .i64 2, .string ⟨#[]⟩, .slice TA tags.length tc, .slice none 0 0, .bool false, .int .i64 0, .slice none 0 0, .slice (some ⟨b, off, none⟩) l.length c] 28)
  have Hc := Lib.hid (gCheckLimits tc c (w.alloc (.cells #[.int .i64 2, .string ⟨#[]⟩, .slice TA tags.length tc, .slice none 0 0, .bool false, .int .i64 0, .slice none 0 0, .slice (some ⟨b, off, none⟩) l.length c] 28)) (h.keep (hf.2.mono hB)) (Nat.le_trans hB hf.2.size) (hp.keep hf.2))
  clear h hp
  go_enter Tryz.func24, Tryz.ntmps24
  go_wp2_with fail
  refine (Hc.out).mono ?_
  rintro e w1 ⟨rfl, hf1⟩
  go_wp2_with fail
  go_ret
  exact ⟨rfl, hf.trans hf1⟩
set_option maxRecDepth 100000 in
set_option maxHeartbeats 1000000 in
theorem gpermitted {B : Nat} {tags : List TG} {TA : Option Addr} {b off : Nat} {l : List LN} {T : CT} (tc c : Nat) (w : World) (h : GT B w tags TA b off l T) (hB : B ≤ w.heap.size) :
    Calls Tryz.prog 26 #[.agg #[.int .i64 2, .string ⟨#[]⟩, .slice TA tags.length tc, .slice none 0 0, .bool false, .int .i64 0, .slice none 0 0, .slice (some ⟨b, off, none⟩) l.length c]] w fun e w' => ∃ A cn, e = .returned (.slice A T.nums.length cn) ∧ (A = none → cn = 0) ∧ SpAt w'.heap.size w' A T.nums ∧ Fr w.heap.size w w' := by
  have hf := (Fr.self w).alloc (.cells #[.int .i64 2, .string ⟨#[]⟩, .slice TA tags.length tc, .slice none 0 0, .bool false, .int .i64 0, .slice none 0 0, .slice (some ⟨b, off, none⟩) l.length c] 28)
  have Hn := Lib.hid (gnumbers c (w.alloc (.cells #[.int .i64 2, .string ⟨#[]⟩, .slice TA tags.length tc, .slice none 0 0, .bool false, .int .i64 0, .slice none 0 0, .slice (some ⟨b, off, none⟩) l.length c] 28)) (h.keep (hf.2.mono hB)) (Nat.le_trans hB hf.2.size))
  have hpos := h.pos
  have hle : l.length ≤ 20 := by have := h.length; have := h.size; omega
  clear h
  generalize T.nums = zs at *
  go_enter Tryz.func26, Tryz.ntmps26
  go_wp2_with fail
  refine (Hn.out).mono ?_
  rintro e w1 ⟨A, cn, rfl, hA, hsp, hf1⟩
  have Hsp := Lib.hid hsp; have HA := Lib.hid hA
  clear hsp hA
  go_wp2_with fail
  go_ret
  exact ⟨A, cn, rfl, HA.out, Hsp.out, hf.trans hf1⟩
set_option maxRecDepth 100000 in
theorem gSpansOf {B : Nat} {tags : List TG} {TA : Option Addr} {b off : Nat} {l : List LN} {T : CT} (tc c : Nat) (w : World) (h : GT B w tags TA b off l T) (hB : B ≤ w.heap.size) (hp : PartTy w) :
    Calls Tryz.prog 9 #[.agg #[.int .i64 2, .string ⟨#[]⟩, .slice TA tags.length tc, .slice none 0 0, .bool false, .int .i64 0, .slice none 0 0, .slice (some ⟨b, off, none⟩) l.length c]] w fun e w' => ∃ A cn, e = .returned (.tuple #[.slice A T.nums.length cn, .int .i64 0]) ∧ (A = none → cn = 0) ∧ SpAt w'.heap.size w' A T.nums ∧ Fr w.heap.size w w' := by
  have hf := (Fr.self w).alloc (.cells #[.int .i64 2, .string ⟨#[]⟩, .slice TA tags.length tc, .slice none 0 0, .bool false, .int .i64 0, .slice none 0 0, .slice (some ⟨b, off, none⟩) l.length c] 28)
  have hk := fun k => cell_new w #[.int .i64 2, .string ⟨#[]⟩, .slice TA tags.length tc, .slice none 0 0, .bool false, .int .i64 0, .slice none 0 0, .slice (some ⟨b, off, none⟩) l.length c] 28 k
  have Ht := Lib.hid (gtypeError tc c (w.alloc (.cells #[.int .i64 2, .string ⟨#[]⟩, .slice TA tags.length tc, .slice none 0 0, .bool false, .int .i64 0, .slice none 0 0, .slice (some ⟨b, off, none⟩) l.length c] 28)) (h.keep (hf.2.mono hB)) (Nat.le_trans hB hf.2.size) (hp.keep hf.2))
  have Hn := Lib.hid (fun w1 (hf1 : Fr w.heap.size w w1) => gpermitted tc c w1 (h.keep (hf1.2.mono hB)) (Nat.le_trans hB hf1.2.size))
  have Hk := Lib.hid hk
  clear h hp hk
  generalize T.nums = zs at *
  go_enter Tryz.func9, Tryz.ntmps9
  go_wp2_with fail
  refine (Ht.out).mono ?_
  rintro e w1 ⟨rfl, hf1⟩
  have hF1 : Fr w.heap.size w w1 := hf.trans hf1
  have hkk : ∀ k, w1.cell? ⟨w.heap.size, k, none⟩ = #[.int .i64 2, .string ⟨#[]⟩, .slice TA tags.length tc, .slice none 0 0, .bool false, .int .i64 0, .slice none 0 0, .slice (some ⟨b, off, none⟩) l.length c][k]? := fun k => (hf1.cell (p := ⟨w.heap.size, k, none⟩) (by simp)).trans (Hk.out k)
  have k0 := hkk 0; have k1 := hkk 1; have k2 := hkk 2; have k3 := hkk 3; have k4 := hkk 4; have k5 := hkk 5; have k6 := hkk 6; have k7 := hkk 7
  clear hkk Hk hf hf1
  go_wp2_with fail
  refine (Hn.out w1 hF1).mono ?_
  rintro e w2 ⟨A, cn, rfl, hA, hsp, hf2⟩
  have Hsp := Lib.hid hsp; have HA := Lib.hid hA
  clear hsp hA
  go_wp2_with fail
  go_ret2
  exact ⟨A, cn, rfl, HA.out, Hsp.out, hF1.trans hf2⟩
set_option maxRecDepth 100000 in
set_option maxHeartbeats 4000000 in
theorem gisPermitted (V2 V : Value) (sp : List Sp) (v : Int) (w : World) (hsl : sp.length ≤ 1000)
    (hP : ∀ w', Fr w.heap.size w w' → Calls Tryz.prog 26 #[.agg #[.int .i64 2, .string ⟨#[]⟩, V2, .slice none 0 0, .bool false, .int .i64 0, .slice none 0 0, V]] w' fun e w2 => ∃ A cn, e = .returned (.slice A sp.length cn) ∧ SpAt w2.heap.size w2 A sp ∧ Fr w'.heap.size w' w2) :
    Calls Tryz.prog 31 #[.agg #[.int .i64 2, .string ⟨#[]⟩, V2, .slice none 0 0, .bool false, .int .i64 0, .slice none 0 0, V], .agg #[.int .i64 2, .int .i64 v, .int .i64 0, .string ⟨#[]⟩, .slice none 0 0, .slice none 0 0]] w fun e w' => e = .returned (.bool (inB sp v)) ∧ Fr w.heap.size w w' := by
  have hf := ((Fr.self w).alloc (.cells #[.int .i64 2, .string ⟨#[]⟩, V2, .slice none 0 0, .bool false, .int .i64 0, .slice none 0 0, V] 28)).alloc (.cells #[.int .i64 2, .int .i64 v, .int .i64 0, .string ⟨#[]⟩, .slice none 0 0, .slice none 0 0] 44)
  have hq : ∀ k, ((w.alloc (.cells #[.int .i64 2, .string ⟨#[]⟩, V2, .slice none 0 0, .bool false, .int .i64 0, .slice none 0 0, V] 28)).alloc (.cells #[.int .i64 2, .int .i64 v, .int .i64 0, .string ⟨#[]⟩, .slice none 0 0, .slice none 0 0] 44)).cell? ⟨w.heap.size, k, none⟩ = #[.int .i64 2, .string ⟨#[]⟩, V2, .slice none 0 0, .bool false, .int .i64 0, .slice none 0 0, V][k]? := fun k => (World.cell?_alloc_lt _ _ _ (by simp)).trans (cell_new w _ _ k)
  have hv : ((w.alloc (.cells #[.int .i64 2, .string ⟨#[]⟩, V2, .slice none 0 0, .bool false, .int .i64 0, .slice none 0 0, V] 28)).alloc (.cells #[.int .i64 2, .int .i64 v, .int .i64 0, .string ⟨#[]⟩, .slice none 0 0, .slice none 0 0] 44)).cell? ⟨w.heap.size + 1, 1, none⟩ = some (.int .i64 v) := by
    have := cell_new (w.alloc (.cells #[.int .i64 2, .string ⟨#[]⟩, V2, .slice none 0 0, .bool false, .int .i64 0, .slice none 0 0, V] 28)) #[.int .i64 2, .int .i64 v, .int .i64 0, .string ⟨#[]⟩, .slice none 0 0, .slice none 0 0] 44 1
    rwa [World.size_alloc] at this
  have HP := Lib.hid hP
  have Hh := Lib.hid (fun (A : Option Addr) (cn : Nat) w (h : SpAt w.heap.size w A sp) => has_any (B := w.heap.size) sp v A cn w h (Nat.le_refl _) (by omega))
  clear hP
  go_enter Tryz.func31, Tryz.ntmps31
  go_wp2_with fail
  have hqz : w.heap.size + 1 < ((w.alloc (.cells #[.int .i64 2, .string ⟨#[]⟩, V2, .slice none 0 0, .bool false, .int .i64 0, .slice none 0 0, V] 28)).alloc (.cells #[.int .i64 2, .int .i64 v, .int .i64 0, .string ⟨#[]⟩, .slice none 0 0, .slice none 0 0] 44)).heap.size := by simp
  generalize (w.alloc (.cells #[.int .i64 2, .string ⟨#[]⟩, V2, .slice none 0 0, .bool false, .int .i64 0, .slice none 0 0, V] 28)).alloc (.cells #[.int .i64 2, .int .i64 v, .int .i64 0, .string ⟨#[]⟩, .slice none 0 0, .slice none 0 0] 44) = W at *
  have q0 := hq 0; have q1 := hq 1; have q2 := hq 2; have q3 := hq 3; have q4 := hq 4; have q5 := hq 5; have q6 := hq 6; have q7 := hq 7
  clear hq
  go_region_held3 (fun w' => Fr w.heap.size w w' ∧ w.heap.size + 1 < w'.heap.size ∧ w'.cell? ⟨w.heap.size + 1, 1, none⟩ = some (.int .i64 v) ∧ w'.cell? ⟨w.heap.size, 0, none⟩ = some (.int .i64 2) ∧ w'.cell? ⟨w.heap.size, 1, none⟩ = some (.string ⟨#[]⟩) ∧ w'.cell? ⟨w.heap.size, 2, none⟩ = some V2 ∧ w'.cell? ⟨w.heap.size, 3, none⟩ = some (.slice none 0 0) ∧ w'.cell? ⟨w.heap.size, 4, none⟩ = some (.bool false) ∧ w'.cell? ⟨w.heap.size, 5, none⟩ = some (.int .i64 0) ∧ w'.cell? ⟨w.heap.size, 6, none⟩ = some (.slice none 0 0) ∧ w'.cell? ⟨w.heap.size, 7, none⟩ = some V)
    (first
      | (go_split_ands; exact ⟨Fr.trans (by assumption) hf5, Nat.lt_of_lt_of_le (by assumption) hf5.2.size, (hf5.cell (p := ⟨w.heap.size + 1, 1, none⟩) (by first | assumption | exact Nat.lt_of_succ_lt (by assumption))).trans (by assumption), (hf5.cell (p := ⟨w.heap.size, 0, none⟩) (by first | assumption | exact Nat.lt_of_succ_lt (by assumption))).trans (by assumption), (hf5.cell (p := ⟨w.heap.size, 1, none⟩) (by first | assumption | exact Nat.lt_of_succ_lt (by assumption))).trans (by assumption), (hf5.cell (p := ⟨w.heap.size, 2, none⟩) (by first | assumption | exact Nat.lt_of_succ_lt (by assumption))).trans (by assumption), (hf5.cell (p := ⟨w.heap.size, 3, none⟩) (by first | assumption | exact Nat.lt_of_succ_lt (by assumption))).trans (by assumption), (hf5.cell (p := ⟨w.heap.size, 4, none⟩) (by first | assumption | exact Nat.lt_of_succ_lt (by assumption))).trans (by assumption), (hf5.cell (p := ⟨w.heap.size, 5, none⟩) (by first | assumption | exact Nat.lt_of_succ_lt (by assumption))).trans (by assumption), (hf5.cell (p := ⟨w.heap.size, 6, none⟩) (by first | assumption | exact Nat.lt_of_succ_lt (by assumption))).trans (by assumption), (hf5.cell (p := ⟨w.heap.size, 7, none⟩) (by first | assumption | exact Nat.lt_of_succ_lt (by assumption))).trans (by assumption)⟩)
      | (go_split_ands; exact ⟨Fr.trans (by assumption) hf6, Nat.lt_of_lt_of_le (by assumption) hf6.2.size, (hf6.cell (p := ⟨w.heap.size + 1, 1, none⟩) (by first | assumption | exact Nat.lt_of_succ_lt (by assumption))).trans (by assumption), (hf6.cell (p := ⟨w.heap.size, 0, none⟩) (by first | assumption | exact Nat.lt_of_succ_lt (by assumption))).trans (by assumption), (hf6.cell (p := ⟨w.heap.size, 1, none⟩) (by first | assumption | exact Nat.lt_of_succ_lt (by assumption))).trans (by assumption), (hf6.cell (p := ⟨w.heap.size, 2, none⟩) (by first | assumption | exact Nat.lt_of_succ_lt (by assumption))).trans (by assumption), (hf6.cell (p := ⟨w.heap.size, 3, none⟩) (by first | assumption | exact Nat.lt_of_succ_lt (by assumption))).trans (by assumption), (hf6.cell (p := ⟨w.heap.size, 4, none⟩) (by first | assumption | exact Nat.lt_of_succ_lt (by assumption))).trans (by assumption), (hf6.cell (p := ⟨w.heap.size, 5, none⟩) (by first | assumption | exact Nat.lt_of_succ_lt (by assumption))).trans (by assumption), (hf6.cell (p := ⟨w.heap.size, 6, none⟩) (by first | assumption | exact Nat.lt_of_succ_lt (by assumption))).trans (by assumption), (hf6.cell (p := ⟨w.heap.size, 7, none⟩) (by first | assumption | exact Nat.lt_of_succ_lt (by assumption))).trans (by assumption)⟩)
      | (go_split_ands; exact ⟨hf.drew, hqz, hv, q0, q1, q2, q3, q4, q5, q6, q7⟩)
      | go_keep)
    (first
      | (go_at_call 26; refine (HP.out _ (by go_split_ands; assumption)).mono ?_; rintro e w5 ⟨A, cn, rfl, hsp, hf5⟩)
      | (go_at_call 53; refine (Hh.out _ _ _ hsp).mono ?_; rintro e w6 ⟨rfl, hf6⟩))
  all_goals
    rename_i hHeld
    have hF := hHeld.1
    clear hHeld
    go_wp2_with fail
    go_ret
    exact ⟨rfl, hF⟩
set_option maxRecDepth 100000 in
set_option maxHeartbeats 2000000 in
theorem gvalueError {B : Nat} {tags : List TG} {TA : Option Addr} {b off : Nat} {l : List LN} {T : CT} (tc c : Nat) (v : Int) (w : World) (h : GT B w tags TA b off l T) (hB : B ≤ w.heap.size) (hp : PartTy w) (hi : PartInt w) (hv : PartVal w) (hn : -1152921504606846976 ≤ v ∧ v ≤ 1152921504606846976) :
    Calls Tryz.prog 30 #[.agg #[.int .i64 2, .string ⟨#[]⟩, .slice TA tags.length tc, .slice none 0 0, .bool false, .int .i64 0, .slice none 0 0, .slice (some ⟨b, off, none⟩) l.length c], .agg #[.int .i64 2, .int .i64 v, .int .i64 0, .string ⟨#[]⟩, .slice none 0 0, .slice none 0 0]] w fun e w' => e = .returned (.int .i64 0) ∧ Fr w.heap.size w w' := by
  have hf := ((Fr.self w).alloc (.cells #[.int .i64 2, .string ⟨#[]⟩, .slice TA tags.length tc, .slice none 0 0, .bool false, .int .i64 0, .slice none 0 0, .slice (some ⟨b, off, none⟩) l.length c] 28)).alloc (.cells #[.int .i64 2, .int .i64 v, .int .i64 0, .string ⟨#[]⟩, .slice none 0 0, .slice none 0 0] 44)
  have hq : ∀ k, ((w.alloc (.cells #[.int .i64 2, .string ⟨#[]⟩, .slice TA tags.length tc, .slice none 0 0, .bool false, .int .i64 0, .slice none 0 0, .slice (some ⟨b, off, none⟩) l.length c] 28)).alloc (.cells #[.int .i64 2, .int .i64 v, .int .i64 0, .string ⟨#[]⟩, .slice none 0 0, .slice none 0 0] 44)).cell? ⟨w.heap.size, k, none⟩ = #[.int .i64 2, .string ⟨#[]⟩, .slice TA tags.length tc, .slice none 0 0, .bool false, .int .i64 0, .slice none 0 0, .slice (some ⟨b, off, none⟩) l.length c][k]? := fun k => (World.cell?_alloc_lt _ _ _ (by simp)).trans (cell_new w _ _ k)
  have hr : ∀ k, ((w.alloc (.cells #[.int .i64 2, .string ⟨#[]⟩, .slice TA tags.length tc, .slice none 0 0, .bool false, .int .i64 0, .slice none 0 0, .slice (some ⟨b, off, none⟩) l.length c] 28)).alloc (.cells #[.int .i64 2, .int .i64 v, .int .i64 0, .string ⟨#[]⟩, .slice none 0 0, .slice none 0 0] 44)).cell? ⟨w.heap.size + 1, k, none⟩ = #[.int .i64 2, .int .i64 v, .int .i64 0, .string ⟨#[]⟩, .slice none 0 0, .slice none 0 0][k]? := fun k => by
    have := cell_new (w.alloc (.cells #[.int .i64 2, .string ⟨#[]⟩, .slice TA tags.length tc, .slice none 0 0, .bool false, .int .i64 0, .slice none 0 0, .slice (some ⟨b, off, none⟩) l.length c] 28)) #[.int .i64 2, .int .i64 v, .int .i64 0, .string ⟨#[]⟩, .slice none 0 0, .slice none 0 0] 44 k
    rwa [World.size_alloc] at this
  have hqz : w.heap.size + 1 < ((w.alloc (.cells #[.int .i64 2, .string ⟨#[]⟩, .slice TA tags.length tc, .slice none 0 0, .bool false, .int .i64 0, .slice none 0 0, .slice (some ⟨b, off, none⟩) l.length c] 28)).alloc (.cells #[.int .i64 2, .int .i64 v, .int .i64 0, .string ⟨#[]⟩, .slice none 0 0, .slice none 0 0] 44)).heap.size := by simp
  have Ht := Lib.hid (fun w (h : GT B w tags TA b off l T) hB hp => gtypeError (B := B) tc c w h hB hp)
  have Hf := Lib.hid (fun w hp => iv_form v hn w hp)
  have H := Lib.hid h; have Hp := Lib.hid hp; have Hi := Lib.hid hi; have Hv := Lib.hid hv
  clear h hp hi hv hn
  go_enter Tryz.func30, Tryz.ntmps30
  go_wp2_with fail
  generalize (w.alloc (.cells #[.int .i64 2, .string ⟨#[]⟩, .slice TA tags.length tc, .slice none 0 0, .bool false, .int .i64 0, .slice none 0 0, .slice (some ⟨b, off, none⟩) l.length c] 28)).alloc (.cells #[.int .i64 2, .int .i64 v, .int .i64 0, .string ⟨#[]⟩, .slice none 0 0, .slice none 0 0] 44) = W at *
  refine (Ht.out _ (H.out.keep (hf.2.mono hB)) (Nat.le_trans hB hf.2.size) (Hp.out.keep hf.2)).mono ?_
  rintro e w1 ⟨rfl, hf1⟩
  have hF1 : Fr w.heap.size w w1 := hf.trans hf1
  have hrr : ∀ k, w1.cell? ⟨w.heap.size + 1, k, none⟩ = #[.int .i64 2, .int .i64 v, .int .i64 0, .string ⟨#[]⟩, .slice none 0 0, .slice none 0 0][k]? := fun k => (hf1.cell (p := ⟨w.heap.size + 1, k, none⟩) hqz).trans (hr k)
  have hq0 := (hf1.cell (p := ⟨w.heap.size, 0, none⟩) (Nat.lt_of_succ_lt hqz)).trans (hq 0)
  have r0 := hrr 0; have r1 := hrr 1; have r2 := hrr 2; have r3 := hrr 3; have r4 := hrr 4; have r5 := hrr 5
  have hz1 : w.heap.size + 1 < w1.heap.size := cell_block r0
  clear hq hr hrr hf hf1 hqz
  go_wp2_with fail
  refine (Hf.out _ (Hi.out.keep hF1.2)).mono ?_
  rintro e w2 ⟨rfl, hf2⟩
  have hF2 : Fr w.heap.size w w2 := hF1.trans hf2
  have hv2 : w2.cell? ⟨0, 2, none⟩ = some (.int .i64 2) := Hv.out.keep hF2.2
  have r0' := (hf2.cell (p := ⟨w.heap.size + 1, 0, none⟩) hz1).trans r0
  have q0' := (hf2.cell (p := ⟨w.heap.size, 0, none⟩) (Nat.lt_of_succ_lt hz1)).trans hq0
  clear r0 r1 r2 r3 r4 r5 hq0 hf2 hF1
  go_wp2_with fail
  go_quiet (fail)
  go_wp2_with fail
  go_ret
  exact ⟨rfl, hF2.drewN _⟩
set_option maxRecDepth 100000 in
set_option maxHeartbeats 2000000 in
theorem gPermits {B : Nat} {tags : List TG} {TA : Option Addr} {b off : Nat} {l : List LN} {T : CT} (tc c : Nat) (v : Int) (w : World) (h : GT B w tags TA b off l T) (hB : B ≤ w.heap.size) (hp : PartTy w) (hi : PartInt w) (hv : PartVal w) (hn : -1152921504606846976 ≤ v ∧ v ≤ 1152921504606846976) :
    Calls Tryz.prog 11 #[.agg #[.int .i64 2, .string ⟨#[]⟩, .slice TA tags.length tc, .slice none 0 0, .bool false, .int .i64 0, .slice none 0 0, .slice (some ⟨b, off, none⟩) l.length c], .agg #[.int .i64 2, .int .i64 v, .int .i64 0, .string ⟨#[]⟩, .slice none 0 0, .slice none 0 0]] w fun e w' => e = .returned (.tuple #[.bool (inB T.nums v), .int .i64 0]) ∧ Fr w.heap.size w w' := by
  have hf := ((Fr.self w).alloc (.cells #[.int .i64 2, .string ⟨#[]⟩, .slice TA tags.length tc, .slice none 0 0, .bool false, .int .i64 0, .slice none 0 0, .slice (some ⟨b, off, none⟩) l.length c] 28)).alloc (.cells #[.int .i64 2, .int .i64 v, .int .i64 0, .string ⟨#[]⟩, .slice none 0 0, .slice none 0 0] 44)
  have hq : ∀ k, ((w.alloc (.cells #[.int .i64 2, .string ⟨#[]⟩, .slice TA tags.length tc, .slice none 0 0, .bool false, .int .i64 0, .slice none 0 0, .slice (some ⟨b, off, none⟩) l.length c] 28)).alloc (.cells #[.int .i64 2, .int .i64 v, .int .i64 0, .string ⟨#[]⟩, .slice none 0 0, .slice none 0 0] 44)).cell? ⟨w.heap.size, k, none⟩ = #[.int .i64 2, .string ⟨#[]⟩, .slice TA tags.length tc, .slice none 0 0, .bool false, .int .i64 0, .slice none 0 0, .slice (some ⟨b, off, none⟩) l.length c][k]? := fun k => (World.cell?_alloc_lt _ _ _ (by simp)).trans (cell_new w _ _ k)
  have hr : ∀ k, ((w.alloc (.cells #[.int .i64 2, .string ⟨#[]⟩, .slice TA tags.length tc, .slice none 0 0, .bool false, .int .i64 0, .slice none 0 0, .slice (some ⟨b, off, none⟩) l.length c] 28)).alloc (.cells #[.int .i64 2, .int .i64 v, .int .i64 0, .string ⟨#[]⟩, .slice none 0 0, .slice none 0 0] 44)).cell? ⟨w.heap.size + 1, k, none⟩ = #[.int .i64 2, .int .i64 v, .int .i64 0, .string ⟨#[]⟩, .slice none 0 0, .slice none 0 0][k]? := fun k => by
    have := cell_new (w.alloc (.cells #[.int .i64 2, .string ⟨#[]⟩, .slice TA tags.length tc, .slice none 0 0, .bool false, .int .i64 0, .slice none 0 0, .slice (some ⟨b, off, none⟩) l.length c] 28)) #[.int .i64 2, .int .i64 v, .int .i64 0, .string ⟨#[]⟩, .slice none 0 0, .slice none 0 0] 44 k
    rwa [World.size_alloc] at this
  have hqz : w.heap.size + 1 < ((w.alloc (.cells #[.int .i64 2, .string ⟨#[]⟩, .slice TA tags.length tc, .slice none 0 0, .bool false, .int .i64 0, .slice none 0 0, .slice (some ⟨b, off, none⟩) l.length c] 28)).alloc (.cells #[.int .i64 2, .int .i64 v, .int .i64 0, .string ⟨#[]⟩, .slice none 0 0, .slice none 0 0] 44)).heap.size := by simp
  have He := Lib.hid (fun w (h : GT B w tags TA b off l T) hB hp hi hv => gvalueError (B := B) tc c v w h hB hp hi hv hn)
  have hnl := h.nums
  have HP := Lib.hid (fun w hP => gisPermitted (.slice TA tags.length tc) (.slice (some ⟨b, off, none⟩) l.length c) T.nums v w (by omega) hP)
  have H := Lib.hid h; have Hp := Lib.hid hp; have Hi := Lib.hid hi; have Hv := Lib.hid hv
  clear h hp hi hv
  go_enter Tryz.func11, Tryz.ntmps11
  go_wp2_with fail
  generalize (w.alloc (.cells #[.int .i64 2, .string ⟨#[]⟩, .slice TA tags.length tc, .slice none 0 0, .bool false, .int .i64 0, .slice none 0 0, .slice (some ⟨b, off, none⟩) l.length c] 28)).alloc (.cells #[.int .i64 2, .int .i64 v, .int .i64 0, .string ⟨#[]⟩, .slice none 0 0, .slice none 0 0] 44) = W at *
  refine (He.out _ (H.out.keep (hf.2.mono hB)) (Nat.le_trans hB hf.2.size) (Hp.out.keep hf.2) (Hi.out.keep hf.2) (Hv.out.keep hf.2)).mono ?_
  rintro e w1 ⟨rfl, hf1⟩
  have hF1 : Fr w.heap.size w w1 := hf.trans hf1
  have hrr : ∀ k, w1.cell? ⟨w.heap.size + 1, k, none⟩ = #[.int .i64 2, .int .i64 v, .int .i64 0, .string ⟨#[]⟩, .slice none 0 0, .slice none 0 0][k]? := fun k => (hf1.cell (p := ⟨w.heap.size + 1, k, none⟩) hqz).trans (hr k)
  have hqq : ∀ k, w1.cell? ⟨w.heap.size, k, none⟩ = #[.int .i64 2, .string ⟨#[]⟩, .slice TA tags.length tc, .slice none 0 0, .bool false, .int .i64 0, .slice none 0 0, .slice (some ⟨b, off, none⟩) l.length c][k]? := fun k => (hf1.cell (p := ⟨w.heap.size, k, none⟩) (Nat.lt_of_succ_lt hqz)).trans (hq k)
  have r0 := hrr 0; have r1 := hrr 1; have r2 := hrr 2; have r3 := hrr 3; have r4 := hrr 4; have r5 := hrr 5
  have q0 := hqq 0; have q1 := hqq 1; have q2 := hqq 2; have q3 := hqq 3; have q4 := hqq 4; have q5 := hqq 5; have q6 := hqq 6; have q7 := hqq 7
  clear hq hr hrr hqq hf hf1 hqz
  go_wp2_with fail
  refine (HP.out w1 (fun w' hf' => (gpermitted (B := B) tc c w' (H.out.keep ((hF1.trans hf').2.mono hB)) (Nat.le_trans hB (hF1.trans hf').2.size)).mono (fun e w2 h => by obtain ⟨A, cn, h1, -, h2, h3⟩ := h; exact ⟨A, cn, h1, h2, h3⟩))).mono ?_
  rintro e w2 ⟨rfl, hf2⟩
  go_wp2_with fail
  go_ret2
  exact ⟨rfl, hF1.trans hf2⟩
end Go.Proofs.YtgdedcdjfljcnaaGreatDoor
