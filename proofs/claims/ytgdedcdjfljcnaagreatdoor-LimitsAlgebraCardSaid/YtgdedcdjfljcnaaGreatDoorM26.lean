/- The reference's error of a type of whole numbers by itself: own, within. The reference's error of a type of whole numbers: IsSmallType, TypeErr; the trees' tags, fields and nodes as the flat readings have them. The reference's abouts, at a type of whole numbers: what each node is asked about. -/
import Derived.Test.YtgdedcdjfljcnaaGreatDoorM21
import Derived.Test.YtgdedcdjfljcnaaGreatDoorM22
import Derived.Test.YtgdedcdjfljcnaaGreatDoorM23
import Derived.Test.YtgdedcdjfljcnaaGreatDoorM24
import Derived.Test.YtgdedcdjfljcnaaGreatDoorM25
import Derived.Test.YtgdedcdjfljcnaaGreatDoorM29
import Derived.Test.YtgdedcdjfljcnaaGreatDoorM15
import Derived.Test.YtgdedcdjfljcnaaGreatDoorM30
import Derived.Test.YtgdedcdjfljcnaaGreatDoorM14
import Derived.Deep.CutBlock
namespace Go.Proofs.YtgdedcdjfljcnaaGreatDoor
open Go.RowKit
attribute [local go_sem] undef

/-- What a type of whole numbers has none of. -/
def PlainI (name : List UInt8) (fds : List FD) (opn : Bool) (root : Int) (ofn : Nat) : Prop := name = [] ∧ fds = [] ∧ opn = false ∧ root = 0 ∧ ofn = 0
theorem forms_not (name : List UInt8) (fds : List FD) (opn : Bool) (root : Int) (ofn : Nat) (A1 A2 A3 A4 : Option Addr) (tn ln c1 c2 c3 c4 : Nat) (w : World) (h : ¬ PlainI name fds opn root ofn) :
    Calls Tryz.prog 121 #[.agg #[.int .i64 2, .string ⟨name.toArray⟩, .slice A1 tn c1, .slice A2 fds.length c2, .bool opn, .int .i64 root, .slice A3 ofn c3, .slice A4 ln c4]] w fun e w' => e = .returned (.bool true) ∧ Fr w.heap.size w w' := by
  by_cases h1 : name = []
  · subst h1
    by_cases h2 : fds.length = 0
    · rw [h2]
      cases opn with
      | true => exact forms_open ofn root A1 A2 A3 A4 tn ln c1 c2 c3 c4 w
      | false =>
        by_cases h4 : root = 0
        · subst h4
          exact forms_of ofn (by
            rcases Nat.eq_zero_or_pos ofn with h5 | h5
            · exact absurd ⟨rfl, List.eq_nil_of_length_eq_zero h2, rfl, rfl, h5⟩ h
            · exact h5) A1 A2 A3 A4 tn ln c1 c2 c3 c4 w
        · exact forms_root ofn root h4 A1 A2 A3 A4 tn ln c1 c2 c3 c4 w
    · exact forms_fields fds.length ofn opn root (by omega) A1 A2 A3 A4 tn ln c1 c2 c3 c4 w
  · exact forms_name name fds.length ofn opn root (by simpa using h1) A1 A2 A3 A4 tn ln c1 c2 c3 c4 w
def OwnI (tags : List TG) (lims : List LN) : Prop := TagsOk tags ∧ isLimB lims = true
set_option maxRecDepth 20000 in
set_option maxHeartbeats 2000000 in
theorem own_plain {B : Nat} (tags : List TG) (lims : List LN) (A1 A2 A3 A4 : Option Addr) (c1 c2 c3 c4 : Nat) (w : World) (hT : TagAt B w A1 tags) (h : LimAt B w A4 lims) (hB : B ≤ w.heap.size) (hl1 : tags.length ≤ maxLen) (hm : lims.length ≤ maxLen) (ha : ∀ x ∈ lims, x.args.length ≤ 100000) :
    Calls Tryz.prog 89 #[.agg #[.int .i64 2, .string ⟨#[]⟩, .slice A1 tags.length c1, .slice A2 0 c2, .bool false, .int .i64 0, .slice A3 0 c3, .slice A4 lims.length c4]] w fun e w' => (∃ c, e = .returned (.int .i64 c) ∧ (c = 0 → OwnI tags lims)) ∧ Fr w.heap.size w w' := by
  have hf := (Fr.self w).alloc (.cells #[.int .i64 2, .string ⟨#[]⟩, .slice A1 tags.length c1, .slice A2 0 c2, .bool false, .int .i64 0, .slice A3 0 c3, .slice A4 lims.length c4] 28)
  have hk := fun k => cell_new w #[.int .i64 2, .string ⟨#[]⟩, .slice A1 tags.length c1, .slice A2 0 c2, .bool false, .int .i64 0, .slice A3 0 c3, .slice A4 lims.length c4] 28 k
  have Hk := Lib.hid hk
  have Hra := Lib.hid (fun W (hW : Fr w.heap.size w W) => (rRanges [] tags [] false 0 0 lims A1 A2 A3 A4 c1 c2 c3 c4 W (hT.keep (hW.2.mono hB)) (.inl rfl) (Nat.le_trans hB hW.2.size) hl1 (Nat.zero_le _) : Calls Tryz.prog 120 #[.agg #[.int .i64 2, .string ⟨#[]⟩, .slice A1 tags.length c1, .slice A2 0 c2, .bool false, .int .i64 0, .slice A3 0 c3, .slice A4 lims.length c4]] W fun e w' => (∃ r, e = .returned (.bool r) ∧ (r = false → ∀ t ∈ tags, tagB t = true)) ∧ Fr W.heap.size W w'))
  have Hfo := Lib.hid (fun W => forms_plain A1 A2 A3 A4 tags.length lims.length c1 c2 c3 c4 W)
  have Hsh := Lib.hid (fun W (hW : Fr w.heap.size w W) => shapes_plain tags lims A1 A2 A3 A4 c1 c2 c3 c4 W (h.keep (hW.2.mono hB)) (Nat.le_trans hB hW.2.size) hm ha)
  have Hna := Lib.hid (fun W => names_plain tags.length lims.length A1 A2 A3 A4 c1 c2 c3 c4 W)
  have hl1' : tags.length ≤ 9223372036854775807 := hl1
  clear hT h hm ha hk hl1
  by_cases ht : 3 < tags.length
  · have hti : (3 : Int) < tags.length := by omega
    go_enter Tryz.func89, Tryz.ntmps89
    go_wp2_with (go_at_call 6; refine (within_yes _ (by omega)).mono ?_; rintro e w' ⟨rfl, rfl⟩)
    go_ret
    exact ⟨⟨2, rfl, fun h => by cases h⟩, hf⟩
  · have hti : ¬ (3 : Int) < tags.length := by omega
    have ht3 : tags.length ≤ 3 := by omega
    go_enter Tryz.func89, Tryz.ntmps89
    go_wp2_with (go_at_call 6; refine (within_yes _ (by omega)).mono ?_; rintro e w' ⟨rfl, rfl⟩)
    refine (Hra.out _ hf).mono ?_
    rintro e w1 ⟨⟨r1, rfl, h1⟩, hf1⟩
    have hF1 := hf.trans hf1
    have H1 := Lib.hid h1
    clear h1
    cases r1 with
    | true =>
      go_wp2_with fail
      go_ret
      exact ⟨⟨3, rfl, fun h => by cases h⟩, hF1⟩
    | false =>
      replace H1 := Lib.hid (H1.out rfl)
      have hk1 := fun k => (hf1.cell (p := ⟨w.heap.size, k, none⟩) (by simp)).trans (Hk.out k)
      have hz1 : w.heap.size < w1.heap.size := Nat.lt_of_lt_of_le (by simp) hf1.2.size
      have p0 := hk1 0; have p1 := hk1 1; have p2 := hk1 2; have p3 := hk1 3; have p4 := hk1 4; have p5 := hk1 5; have p6 := hk1 6; have p7 := hk1 7
      have Hk1 := Lib.hid hk1
      clear hk1 Hk hf hf1
      go_wp2_with fail
      refine (Hfo.out _).mono ?_
      rintro e w2 ⟨rfl, hf2⟩
      have hF2 := hF1.trans hf2
      have hk2 := fun k => (hf2.cell (p := ⟨w.heap.size, k, none⟩) hz1).trans (Hk1.out k)
      have hz2 : w.heap.size < w2.heap.size := Nat.lt_of_lt_of_le hz1 hf2.2.size
      clear p0 p1 p2 p3 p4 p5 p6 p7 Hk1 hf2
      have p0 := hk2 0; have p1 := hk2 1; have p2 := hk2 2; have p3 := hk2 3; have p4 := hk2 4; have p5 := hk2 5; have p6 := hk2 6; have p7 := hk2 7
      have Hk2 := Lib.hid hk2
      clear hk2
      go_wp2_with fail
      refine (Hsh.out _ hF2).mono ?_
      rintro e w3 ⟨⟨r3, rfl, h3⟩, hf3⟩
      have hF3 := hF2.trans hf3
      have H3 := Lib.hid h3
      clear h3
      cases r3 with
      | true =>
        go_wp2_with fail
        go_ret
        exact ⟨⟨6, rfl, fun h => by cases h⟩, hF3⟩
      | false =>
        replace H3 := Lib.hid (H3.out rfl)
        have hk3 := fun k => (hf3.cell (p := ⟨w.heap.size, k, none⟩) hz2).trans (Hk2.out k)
        clear p0 p1 p2 p3 p4 p5 p6 p7 Hk2 hf3
        have p0 := hk3 0; have p1 := hk3 1; have p2 := hk3 2; have p3 := hk3 3; have p4 := hk3 4; have p5 := hk3 5; have p6 := hk3 6; have p7 := hk3 7
        clear hk3
        go_wp2_with fail
        refine (Hna.out _).mono ?_
        rintro e w4 ⟨rfl, hf4⟩
        go_wp2_with fail
        go_ret
        exact ⟨⟨0, rfl, fun _ => ⟨⟨ht3, H1.out⟩, H3.out⟩⟩, hF3.trans hf4⟩
set_option maxRecDepth 20000 in
set_option maxHeartbeats 2000000 in
theorem own_not {B : Nat} (name : List UInt8) (tags : List TG) (fds : List FD) (opn : Bool) (root : Int) (ofn : Nat) (lims : List LN) (A1 A2 A3 A4 : Option Addr) (c1 c2 c3 c4 : Nat) (w : World) (hP : ¬ PlainI name fds opn root ofn) (hT : TagAt B w A1 tags) (hF : FldAt B w A2 fds) (hB : B ≤ w.heap.size) (hl1 : tags.length ≤ maxLen) (hl2 : fds.length ≤ maxLen) :
    Calls Tryz.prog 89 #[.agg #[.int .i64 2, .string ⟨name.toArray⟩, .slice A1 tags.length c1, .slice A2 fds.length c2, .bool opn, .int .i64 root, .slice A3 ofn c3, .slice A4 lims.length c4]] w fun e w' => (∃ c, e = .returned (.int .i64 c) ∧ c ≠ 0) ∧ Fr w.heap.size w w' := by
  have hf := (Fr.self w).alloc (.cells #[.int .i64 2, .string ⟨name.toArray⟩, .slice A1 tags.length c1, .slice A2 fds.length c2, .bool opn, .int .i64 root, .slice A3 ofn c3, .slice A4 lims.length c4] 28)
  have hk := fun k => cell_new w #[.int .i64 2, .string ⟨name.toArray⟩, .slice A1 tags.length c1, .slice A2 fds.length c2, .bool opn, .int .i64 root, .slice A3 ofn c3, .slice A4 lims.length c4] 28 k
  have Hk := Lib.hid hk
  have Hra := Lib.hid (fun W (hW : Fr w.heap.size w W) => rRanges name tags fds opn root ofn lims A1 A2 A3 A4 c1 c2 c3 c4 W (hT.keep (hW.2.mono hB)) (hF.keep (hW.2.mono hB)) (Nat.le_trans hB hW.2.size) hl1 hl2)
  have Hfo := Lib.hid (fun W => forms_not name fds opn root ofn A1 A2 A3 A4 tags.length lims.length c1 c2 c3 c4 W hP)
  have hl1' : tags.length ≤ 9223372036854775807 := hl1
  have hl2' : fds.length ≤ 9223372036854775807 := hl2
  clear hT hF hP hk hl1 hl2
  by_cases ht : 3 < tags.length
  · have hti : (3 : Int) < tags.length := by omega
    go_enter Tryz.func89, Tryz.ntmps89
    go_wp2_with (go_at_call 6; refine (within_yes _ (by omega)).mono ?_; rintro e w' ⟨rfl, rfl⟩)
    go_ret
    exact ⟨⟨2, rfl, by decide⟩, hf⟩
  have hti : ¬ (3 : Int) < tags.length := by omega
  by_cases hfl : 16 < fds.length
  · have hfi : (16 : Int) < fds.length := by omega
    go_enter Tryz.func89, Tryz.ntmps89
    go_wp2_with (go_at_call 6; refine (within_yes _ (by omega)).mono ?_; rintro e w' ⟨rfl, rfl⟩)
    go_ret
    exact ⟨⟨2, rfl, by decide⟩, hf⟩
  have hfi : ¬ (16 : Int) < fds.length := by omega
  go_enter Tryz.func89, Tryz.ntmps89
  go_wp2_with (go_at_call 6; refine (within_yes _ (by omega)).mono ?_; rintro e w' ⟨rfl, rfl⟩)
  refine (Hra.out _ hf).mono ?_
  rintro e w1 ⟨⟨r1, rfl, -⟩, hf1⟩
  have hF1 := hf.trans hf1
  cases r1 with
  | true =>
    go_wp2_with fail
    go_ret
    exact ⟨⟨3, rfl, by decide⟩, hF1⟩
  | false =>
    have hk1 := fun k => (hf1.cell (p := ⟨w.heap.size, k, none⟩) (by simp)).trans (Hk.out k)
    have p0 := hk1 0; have p1 := hk1 1; have p2 := hk1 2; have p3 := hk1 3; have p4 := hk1 4; have p5 := hk1 5; have p6 := hk1 6; have p7 := hk1 7
    clear hk1 Hk hf hf1
    go_wp2_with fail
    refine (Hfo.out _).mono ?_
    rintro e w2 ⟨rfl, hf2⟩
    go_wp2_with fail
    go_ret
    exact ⟨⟨5, rfl, by decide⟩, hF1.trans hf2⟩
theorem within_plain {B : Nat} (tags : List TG) (lims : List LN) (A1 A2 A3 A4 : Option Addr) (c1 c2 c3 c4 : Nat) (w : World) (hT : TagAt B w A1 tags) (h : LimAt B w A4 lims) (hB : B ≤ w.heap.size) (hl1 : tags.length ≤ maxLen) (hm : lims.length ≤ maxLen) (ha : ∀ x ∈ lims, x.args.length ≤ 100000) :
    Calls Tryz.prog 66 #[.agg #[.int .i64 2, .string ⟨#[]⟩, .slice A1 tags.length c1, .slice A2 0 c2, .bool false, .int .i64 0, .slice A3 0 c3, .slice A4 lims.length c4]] w fun e w' => (∃ c, e = .returned (.int .i64 c) ∧ (c = 0 → OwnI tags lims)) ∧ Fr w.heap.size w w' := by
  have hf := (Fr.self w).alloc (.cells #[.int .i64 2, .string ⟨#[]⟩, .slice A1 tags.length c1, .slice A2 0 c2, .bool false, .int .i64 0, .slice A3 0 c3, .slice A4 lims.length c4] 28)
  have Hk := Lib.hid (fun k => cell_new w #[.int .i64 2, .string ⟨#[]⟩, .slice A1 tags.length c1, .slice A2 0 c2, .bool false, .int .i64 0, .slice A3 0 c3, .slice A4 lims.length c4] 28 k)
  have Ho := Lib.hid (own_plain tags lims A1 A2 A3 A4 c1 c2 c3 c4 (w.alloc (.cells #[.int .i64 2, .string ⟨#[]⟩, .slice A1 tags.length c1, .slice A2 0 c2, .bool false, .int .i64 0, .slice A3 0 c3, .slice A4 lims.length c4] 28)) (hT.keep (hf.2.mono hB)) (h.keep (hf.2.mono hB)) (Nat.le_trans hB hf.2.size) hl1 hm ha)
  clear hT h hm ha hl1
  go_enter Tryz.func66, Tryz.ntmps66
  go_wp2_with fail
  refine (Ho.out).mono ?_
  rintro e w1 ⟨⟨c, rfl, hc⟩, hf1⟩
  have Hc := Lib.hid hc
  clear hc
  have p3 : w1.cell? ⟨w.heap.size, 3, none⟩ = some (.slice A2 0 c2) := (hf1.cell (p := ⟨w.heap.size, 3, none⟩) (by simp)).trans (Hk.out 3)
  have p6 : w1.cell? ⟨w.heap.size, 6, none⟩ = some (.slice A3 0 c3) := (hf1.cell (p := ⟨w.heap.size, 6, none⟩) (by simp)).trans (Hk.out 6)
  clear Hk
  by_cases h0 : c = 0
  · subst h0
    replace Hc := Lib.hid (Hc.out rfl)
    go_wp2_with fail
    refine wp_loop_rounds 1 ?_
    rw [rounds_succ]
    go_wp2_with fail
    go_ret
    exact ⟨⟨0, rfl, fun _ => Hc.out⟩, hf.trans hf1⟩
  · have hb : (c != 0) = true := by simpa using h0
    go_wp2_with fail
    go_ret
    exact ⟨⟨c, rfl, fun h => absurd h h0⟩, hf.trans hf1⟩
theorem within_not {B : Nat} (name : List UInt8) (tags : List TG) (fds : List FD) (opn : Bool) (root : Int) (ofn : Nat) (lims : List LN) (A1 A2 A3 A4 : Option Addr) (c1 c2 c3 c4 : Nat) (w : World) (hP : ¬ PlainI name fds opn root ofn) (hT : TagAt B w A1 tags) (hF : FldAt B w A2 fds) (hB : B ≤ w.heap.size) (hl1 : tags.length ≤ maxLen) (hl2 : fds.length ≤ maxLen) :
    Calls Tryz.prog 66 #[.agg #[.int .i64 2, .string ⟨name.toArray⟩, .slice A1 tags.length c1, .slice A2 fds.length c2, .bool opn, .int .i64 root, .slice A3 ofn c3, .slice A4 lims.length c4]] w fun e w' => (∃ c, e = .returned (.int .i64 c) ∧ c ≠ 0) ∧ Fr w.heap.size w w' := by
  have hf := (Fr.self w).alloc (.cells #[.int .i64 2, .string ⟨name.toArray⟩, .slice A1 tags.length c1, .slice A2 fds.length c2, .bool opn, .int .i64 root, .slice A3 ofn c3, .slice A4 lims.length c4] 28)
  have Ho := Lib.hid (own_not name tags fds opn root ofn lims A1 A2 A3 A4 c1 c2 c3 c4 (w.alloc (.cells #[.int .i64 2, .string ⟨name.toArray⟩, .slice A1 tags.length c1, .slice A2 fds.length c2, .bool opn, .int .i64 root, .slice A3 ofn c3, .slice A4 lims.length c4] 28)) hP (hT.keep (hf.2.mono hB)) (hF.keep (hf.2.mono hB)) (Nat.le_trans hB hf.2.size) hl1 hl2)
  clear hP hT hF hl1 hl2
  go_enter Tryz.func66, Tryz.ntmps66
  go_wp2_with fail
  refine (Ho.out).mono ?_
  rintro e w1 ⟨⟨c, rfl, h0⟩, hf1⟩
  have hb : (c != 0) = true := by simpa using h0
  have H0 := Lib.hid h0
  clear h0
  go_wp2_with fail
  go_ret
  exact ⟨⟨c, rfl, H0.out⟩, hf.trans hf1⟩
end Go.Proofs.YtgdedcdjfljcnaaGreatDoor
namespace Go.Proofs.YtgdedcdjfljcnaaGreatDoor
open Go.RowKit

theorem tag_of {B : Nat} {w : World} {A : Option Addr} {tags : List TG} (h : RowsS (fun b => b < B) w 3 A tags.length (itemCells TG.cells tags)) : TagAt B w A tags := by
  rcases h with h | ⟨b, off, h1, h2, h3⟩
  · exact .inl (List.eq_nil_of_length_eq_zero h)
  · refine .inr ⟨b, off, h1, h2, fun i t ht => ?_⟩
    have hi : i < tags.length := (List.getElem?_eq_some_iff.mp ht).1
    have hc : itemCells TG.cells tags i = t.cells := by simp [itemCells, ht]
    have h0 := h3 i hi 0; have h1' := h3 i hi 1; have h2' := h3 i hi 2
    rw [hc] at h0 h1' h2'
    exact ⟨h0 _ rfl, h1' _ rfl, h2' _ rfl⟩
theorem fld_of {B : Nat} {w : World} {A : Option Addr} {fds : List FD} {CT CF : Nat → List Value} (h : RowsS (fun b => b < B) w 13 A fds.length CF) (hd : ∀ i d, fds[i]? = some d → FieldS (fun b => b < B) w d (CT i) (CF i)) (he : ∀ i, i < fds.length → (CT i).length = 8) : FldAt B w A fds := by
  rcases h with h | ⟨b, off, h1, h2, h3⟩
  · exact .inl (List.eq_nil_of_length_eq_zero h)
  · refine .inr ⟨b, off, h1, h2, fun i d hdi => ?_⟩
    have hi : i < fds.length := (List.getElem?_eq_some_iff.mp hdi).1
    obtain ⟨D, cd, CV, hc, -⟩ := hd i d hdi
    have h10 := h3 i hi 10; have h12 := h3 i hi 12
    rw [hc] at h10 h12
    have h8 := he i hi
    generalize CT i = ty at *
    obtain ⟨a0, a1, a2, a3, a4, a5, a6, a7, rfl⟩ : ∃ a0 a1 a2 a3 a4 a5 a6 a7, ty = [a0, a1, a2, a3, a4, a5, a6, a7] := by
      match ty, h8 with
      | [a0, a1, a2, a3, a4, a5, a6, a7], _ => exact ⟨_, _, _, _, _, _, _, _, rfl⟩
    exact ⟨h10 _ rfl, h12 _ rfl⟩
theorem arg_of {B : Nat} {w : World} {A : Option Addr} {l : List Int} (h : RowsS (fun b => b < B) w 1 A l.length (itemCells (fun a => [Value.int .i64 a]) l)) : ArgAt B w A l := by
  rcases h with h | ⟨b, off, h1, h2, h3⟩
  · exact .inl (List.eq_nil_of_length_eq_zero h)
  · refine .inr ⟨b, off, h1, h2, fun j u hu => ?_⟩
    have hj : j < l.length := (List.getElem?_eq_some_iff.mp hu).1
    have h0 := h3 j hj 0
    rw [show itemCells (fun a => [Value.int .i64 a]) l j = [Value.int .i64 u] by simp [itemCells, hu]] at h0
    have := h0 _ rfl
    simpa using this
theorem lim_of {B : Nat} {w : World} {A : Option Addr} {lims : List LN} {CL : Nat → List Value} (h : RowsS (fun b => b < B) w 5 A lims.length CL) (hn : ∀ i x, lims[i]? = some x → NodeS (fun b => b < B) w x (CL i)) : LimAt B w A lims := by
  rcases h with h | ⟨b, off, h1, h2, h3⟩
  · exact .inl (List.eq_nil_of_length_eq_zero h)
  · have hx : ∀ i, ∃ p : Option Addr × Nat, ∀ x, lims[i]? = some x → NodeRep B w x p.1 p.2 ∧ CL i = x.cells p.1 p.2 := fun i => by
      cases hi : lims[i]? with
      | none => exact ⟨(none, 0), fun x hx => by cases hx⟩
      | some y =>
        obtain ⟨P, ca, hc, hs, hr, ⟨q1, q2, q3, q4⟩, -⟩ := hn i y hi
        exact ⟨(P, ca), fun x hx => by cases hx; exact ⟨⟨arg_of hr, hs.2.1, hs.1, q1, q2, q3, q4⟩, hc⟩⟩
    refine .inr ⟨b, off, fun i => Classical.choose (hx i), h1, h2, fun i x hi => (Classical.choose_spec (hx i) x hi).1, fun i x hi j u hu => ?_⟩
    have hi' : i < lims.length := (List.getElem?_eq_some_iff.mp hi).1
    exact h3 i hi' j u (by rw [(Classical.choose_spec (hx i) x hi).2]; exact hu)
set_option maxRecDepth 100000 in
theorem isSmallType_any {w : World} {x : TyT} {cs : List Value} (hrep : RepTy w.heap.size w x cs) (most : Int) (h0 : 0 ≤ most) (h1 : most ≤ 4611686018427387904) :
    Calls Tryz.prog 65 #[.agg cs.toArray, .int .i64 most] w fun e w' => (∃ r, e = .returned (.bool r)) ∧ Fr w.heap.size w w' := by
  obtain ⟨fk, fs, P1, n1, e1, P2, n2, e2, fo, fr, P3, n3, e3, P4, n4, e4, rfl⟩ := hrep.shape
  have hf := Fr.self w
  obtain ⟨lv, hlv⟩ : ∃ v : Int, v = (9 : Int) := ⟨_, rfl⟩
  have Hv := Lib.hid (fun (w1 : World) (hb : Below w.heap.size w w1) (hs : SzIs w1 (w.heap.size + 1) (most, false)) => sizerType_any hrep w1 (w.heap.size + 1) most lv hb (by have := hb.size; omega) (by omega) hs h0 h1 (by omega) (by omega))
  have hsz : ∀ o, SzIs ((w.alloc o).alloc (.cells #[.int .i64 most, .bool false] 60)) (w.heap.size + 1) (most, false) := fun o => by
    have := szIs_new (w.alloc o) most
    simpa using this
  have Hsz := Lib.hid hsz
  clear hrep hsz
  subst hlv
  generalize szTy x (9 : Int) (most, false) = q at *
  obtain ⟨q1, q2⟩ := q
  go_enter Tryz.func65, Tryz.ntmps65
  go_wp2_with (go_at_call 21; refine (Hv.out _ ((hf.alloc _).alloc _).2 (Hsz.out _)).mono ?_; rintro e w1 ⟨rfl, hs1, hk1⟩; obtain ⟨c0, c1, f0, f1⟩ := hs1.cells)
  go_ret
  exact ⟨⟨_, rfl⟩, hk1.fr (by omega) ((hf.alloc _).alloc _)⟩
/-- What TypeErr and within return at a type of whole numbers. -/
def TErr (P : Prop) (e : Ending) : Prop := ∃ c, e = .returned (.int .i64 c) ∧ (c = 0 → P)
set_option maxRecDepth 100000 in
theorem rTypeErr {w : World} {name : List UInt8} {tags : List TG} {fds : List FD} {fts : List TyT} {opn : Bool} {root : Int} {of : List TyT} {lims : List LN} {cs : List Value} (hrep : RepTy w.heap.size w (.mk 2 name tags fds fts opn root of lims) cs) (ha : ∀ x ∈ lims, x.args.length ≤ 100000) :
    Calls Tryz.prog 41 #[.agg cs.toArray] w fun e w' => TErr (PlainI name fds opn root of.length ∧ OwnI tags lims) e ∧ Fr w.heap.size w w' := by
  have Hs := Lib.hid (fun (W : World) (hW : Fr w.heap.size w W) => isSmallType_any (RepTy.mono hW.2.size (RepTy.keep hW.2 hrep)) 60 (by omega) (by omega))
  have hf := Fr.self w
  cases hrep with
  | mk k name tags fds fts opn root of lims A1 c1 A2 c2 A3 c3 A4 c4 CF CT CO CL h1 h2 h3 h4 hft hk hroot hname hT hTo hF hFd hFt hO hOt hL hLn =>
    have hta := tag_of hT
    have hfa := fld_of hF hFd (fun i hi => by
      have : i < fts.length := by omega
      exact (hFt i _ (List.getElem?_eq_getElem this)).eight)
    have hla := lim_of hL hLn
    have Hw : Hid (∀ W : World, Fr w.heap.size w W → Calls Tryz.prog 66 #[.agg #[.int .i64 2, .string ⟨name.toArray⟩, .slice A1 tags.length c1, .slice A2 fds.length c2, .bool opn, .int .i64 root, .slice A3 of.length c3, .slice A4 lims.length c4]] W fun e w' => TErr (PlainI name fds opn root of.length ∧ OwnI tags lims) e ∧ Fr W.heap.size W w') := Lib.hid fun W hW => by
      by_cases hP : PlainI name fds opn root of.length
      · have hP' := hP
        obtain ⟨rfl, rfl, rfl, rfl, h5⟩ := hP
        rw [h5] at *
        refine (within_plain tags lims A1 A2 A3 A4 c1 c2 c3 c4 W (hta.keep hW.2) (hla.keep hW.2) hW.2.size h1.2.2 h4.2.2 ha).mono ?_
        rintro e w' ⟨⟨c, rfl, hc⟩, hf'⟩
        exact ⟨⟨c, rfl, fun h0 => ⟨hP', hc h0⟩⟩, hf'⟩
      · refine (within_not name tags fds opn root of.length lims A1 A2 A3 A4 c1 c2 c3 c4 W hP (hta.keep hW.2) (hfa.keep hW.2) hW.2.size h1.2.2 h2.2.2).mono ?_
        rintro e w' ⟨⟨c, rfl, hc⟩, hf'⟩
        exact ⟨⟨c, rfl, fun h0 => absurd h0 hc⟩, hf'⟩
    clear hta hfa hla hT hTo hF hFd hFt hO hOt hL hLn ha hname hroot hk hft
    have hn1 : tags.length ≤ 9223372036854775807 := h1.2.2
    clear h1 h2 h3 h4
    have hf1 := hf.alloc (.cells #[.int .i64 2, .string ⟨name.toArray⟩, .slice A1 tags.length c1, .slice A2 fds.length c2, .bool opn, .int .i64 root, .slice A3 of.length c3, .slice A4 lims.length c4] 28)
    have Hc := Lib.hid (fun k => cell_new w #[.int .i64 2, .string ⟨name.toArray⟩, .slice A1 tags.length c1, .slice A2 fds.length c2, .bool opn, .int .i64 root, .slice A3 of.length c3, .slice A4 lims.length c4] 28 k)
    go_enter Tryz.func41, Tryz.ntmps41
    go_wp2_with fail
    refine (Hs.out _ hf1).mono ?_
    rintro e w1 ⟨⟨r, rfl⟩, hf2⟩
    have hF := hf1.trans hf2
    have hk : ∀ k, w1.cell? ⟨w.heap.size, k, none⟩ = _ := fun k => (hf2.cell (p := ⟨w.heap.size, k, none⟩) (by simp)).trans (Hc.out k)
    have k0 := hk 0; have k1 := hk 1; have k2 := hk 2; have k3 := hk 3; have k4 := hk 4; have k5 := hk 5; have k6 := hk 6; have k7 := hk 7
    clear hk hf1 hf2
    cases r with
    | false =>
      go_wp2_with fail
      go_ret
      exact ⟨⟨_, rfl, fun h => by cases h⟩, hF⟩
    | true =>
      go_wp2_with fail
      refine (Hw.out _ hF).mono ?_
      rintro e w2 ⟨⟨c, rfl, hc⟩, hf3⟩
      have Hcc := Lib.hid hc
      clear hc
      go_wp2_with fail
      go_ret
      exact ⟨⟨c, rfl, Hcc.out⟩, hF.trans hf3⟩
end Go.Proofs.YtgdedcdjfljcnaaGreatDoor
namespace Go.Proofs.YtgdedcdjfljcnaaGreatDoor
open Go.RowKit

/-- The world of its rounds. -/
structure AbI (w : World) (l : List LN) (A4 : Option Addr) (c4 : Nat) (s : List Int) (wr : World) : Prop where
  kind : wr.cell? ⟨w.heap.size, 0, none⟩ = some (.int .i64 2)
  lims : wr.cell? ⟨w.heap.size, 7, none⟩ = some (.slice A4 l.length c4)
  row : RowB wr (w.heap.size + 1) s
  len : s.length = l.length
  vals : ∀ v ∈ s, AbV l v
  fr : Fr w.heap.size w wr
  size : w.heap.size + 2 ≤ wr.heap.size
theorem AbI.set {w : World} {l : List LN} {A4 : Option Addr} {c4 : Nat} {s : List Int} {wr : World} (h : AbI w l A4 c4 s wr) (i : Nat) (v : Int) (hv : AbV l v) : AbI w l A4 c4 (s.set i v) (wr.setCell ⟨w.heap.size + 1, i, none⟩ (.int .i64 v)) := by
  have hne : ∀ (b j : Nat), b ≠ w.heap.size + 1 → (wr.setCell ⟨w.heap.size + 1, i, none⟩ (.int .i64 v)).cell? ⟨b, j, none⟩ = wr.cell? ⟨b, j, none⟩ := fun b j hb => World.cell?_setCell_other _ _ _ _ (by intro e; cases e; exact hb rfl)
  have hf : Fr w.heap.size w (wr.setCell ⟨w.heap.size + 1, i, none⟩ (.int .i64 v)) := ⟨h.fr.1, h.fr.2.setCell (p := ⟨w.heap.size + 1, i, none⟩) (by simp) _⟩
  exact ⟨(hne _ _ (by omega)).trans h.kind, (hne _ _ (by omega)).trans h.lims, h.row.set i v, by rw [List.length_set]; exact h.len, fun u hu => by
    rcases List.mem_or_eq_of_mem_set hu with hu | rfl
    · exact h.vals u hu
    · exact hv, hf, by rw [World.size_setCell]; exact h.size⟩
theorem AbI.alloc {w : World} {l : List LN} {A4 : Option Addr} {c4 : Nat} {s : List Int} {wr : World} (h : AbI w l A4 c4 s wr) (o : Obj) : AbI w l A4 c4 s (wr.alloc o) := by
  have hz := h.size
  exact ⟨(World.cell?_alloc_lt _ _ _ (by show w.heap.size < _; omega)).trans h.kind, (World.cell?_alloc_lt _ _ _ (by show w.heap.size < _; omega)).trans h.lims, (rowB_own (w.heap.size + 1) (fun _ : Unit => s)).alloc _ (s := ()) h.row, h.len, h.vals, h.fr.alloc _, by rw [World.size_alloc]; omega⟩
theorem abV_zero (l : List LN) : AbV l 0 := ⟨.inl rfl, fun _ => .inl rfl⟩
theorem abV_one (l : List LN) : AbV l 1 := ⟨.inr (.inl rfl), fun _ => .inr rfl⟩
theorem abV_five {l : List LN} {x : LN} (hx : x ∈ l) (hk : x.kind = 2) : AbV l 5 := ⟨.inr (.inr (.inl rfl)), fun h => absurd hk (h x hx).1⟩
theorem abV_six {l : List LN} {x : LN} (hx : x ∈ l) (hk : x.kind = 3) : AbV l 6 := ⟨.inr (.inr (.inr rfl)), fun h => absurd hk (h x hx).2⟩
/-- The box of a node. -/
def BoxN (wr : World) (g : Nat) (kd : Int) (A : Option Addr) (n c : Nat) : Prop := wr.cell? ⟨g, 0, none⟩ = some (.int .i64 kd) ∧ wr.cell? ⟨g, 4, none⟩ = some (.slice A n c)
theorem BoxN.set {wr : World} {g : Nat} {kd : Int} {A : Option Addr} {n c : Nat} (h : BoxN wr g kd A n c) {b i : Nat} (hb : b ≠ g) (v : Value) : BoxN (wr.setCell ⟨b, i, none⟩ v) g kd A n c :=
  ⟨(World.cell?_setCell_other _ _ _ _ (by intro e; cases e; exact hb rfl)).trans h.1, (World.cell?_setCell_other _ _ _ _ (by intro e; cases e; exact hb rfl)).trans h.2⟩
set_option maxRecDepth 100000 in
set_option maxHeartbeats 2000000 in
theorem abouts_any {B : Nat} (l : List LN) (A4 : Option Addr) (c4 : Nat) (X1 X2 X3 X4 X5 X6 : Value) (w : World) (h : LimAt B w A4 l) (hB : B ≤ w.heap.size) (hl : isLimB l = true) (hne : l ≠ []) (h20 : l.length ≤ 20) (hal : ∀ x ∈ l, x.args.length ≤ 100000) :
    Calls Tryz.prog 68 #[.agg #[.int .i64 2, X1, X2, X3, X4, X5, X6, .slice A4 l.length c4]] w fun e w' => e = .returned (.slice (some ⟨w.heap.size + 1, 0, none⟩) l.length l.length) ∧ Hid (∃ s, RowB w' (w.heap.size + 1) s ∧ s.length = l.length ∧ ∀ v ∈ s, AbV l v) ∧ Fr w.heap.size w w' := by
  have hpos : 0 < l.length := by cases l <;> simp_all
  obtain ⟨b, off, rfl, hbB⟩ := h.addr (List.getElem?_eq_getElem hpos)
  have hf := (Fr.self w).alloc (.cells #[.int .i64 2, X1, X2, X3, X4, X5, X6, .slice (some ⟨b, off, none⟩) l.length c4] 28)
  have hmk := fun w => make_ints l.length (by omega) w
  have Hab := Lib.hid about_two
  go_enter Tryz.func68, Tryz.ntmps68
  go_wp2_with fail
  have hI : AbI w l (some ⟨b, off, none⟩) c4 (List.replicate l.length 0) ((w.alloc (.cells #[.int .i64 2, X1, X2, X3, X4, X5, X6, .slice (some ⟨b, off, none⟩) l.length c4] 28)).alloc (.cells (madeCells #[.int .i64 0] l.length) 3)) := by
    have hr := rowB_made l.length (w.alloc (.cells #[.int .i64 2, X1, X2, X3, X4, X5, X6, .slice (some ⟨b, off, none⟩) l.length c4] 28))
    rw [World.size_alloc] at hr
    exact ⟨(World.cell?_alloc_lt _ _ _ (by simp)).trans (cell_new w _ _ 0), (World.cell?_alloc_lt _ _ _ (by simp)).trans (cell_new w _ _ 7), hr, by simp, fun v hv => by rw [List.eq_of_mem_replicate hv]; exact abV_zero l, hf.alloc _, by simp⟩
  generalize (w.alloc (.cells #[.int .i64 2, X1, X2, X3, X4, X5, X6, .slice (some ⟨b, off, none⟩) l.length c4] 28)).alloc (.cells (madeCells #[.int .i64 0] l.length) 3) = W0 at *
  have Hh := Lib.hid h; have Hl := Lib.hid hl; have Hal := Lib.hid hal; have HI := Lib.hid hI
  have hlm : l.length ≤ 9223372036854775807 := by omega
  clear hmk hf h hl hal hI
  go_loopw [4, 5, 6, 7] (fun i _ _ _ wr => ∃ (m : Nat) (s : List Int), m ≤ l.length ∧ i = .int .i64 ((m : Int) - 1) ∧ AbI w l (some ⟨b, off, none⟩) c4 s wr) (fun i _ _ _ _ => (intOf i + 1).toNat)
  case atStart => exact ⟨l.length, _, Nat.le_refl _, by go_num, HI.out⟩
  case round =>
    obtain ⟨m, s, hm, rfl, hI⟩ := hrel
    cases m with
    | zero =>
      have hs := hI.row; have hsl := hI.len; have hsv := hI.vals; have hfr := hI.fr
      have Hs := Lib.hid (⟨s, hs, hsl, hsv⟩ : ∃ s, RowB wr (w.heap.size + 1) s ∧ s.length = l.length ∧ ∀ v ∈ s, AbV l v)
      clear hs hsl hsv hI
      go_wp2_with fail
      go_ret
      exact ⟨rfl, Hs, hfr⟩
    | succ k =>
      have hk1 : ((k + 1 : Nat) : Int) - 1 = (k : Int) := by omega
      rw [hk1]
      clear hk1
      have hk0 : (0 : Int) ≤ k := by omega
      have hkl : (k : Int) < l.length := by omega
      have hkn : k < l.length := by omega
      obtain ⟨x, hx⟩ : ∃ x, l[k]? = some x := ⟨_, List.getElem?_eq_getElem hkn⟩
      have hq := isLimB_args Hl.out hx
      have hxm : x ∈ l := List.mem_of_getElem? hx
      have HIr := Lib.hid hI
      have p0 := hI.kind; have p7 := hI.lims; have hsl := hI.len
      obtain ⟨v, hv⟩ : ∃ v, s[k]? = some v := ⟨_, List.getElem?_eq_getElem (by omega)⟩
      have hc := hI.row.1 _ _ hv; have hz := hI.row.2 _ _ hv
      clear hI
      obtain ⟨bt, hbt⟩ : ∃ bt, ((k : Int) == (l.length : Int) - 1) = bt := ⟨_, rfl⟩
      go_upto_if 23 with fail
      clear hbt
      go_cut [] from 24 to 29 (fun wx => ∃ s, AbI w l (some ⟨b, off, none⟩) c4 s wx)
      case first =>
        cases bt with
        | true =>
          go_wp2_with (go_at_call 67; refine (Hab.out _).mono ?_; rintro e w' ⟨rfl, rfl⟩)
          go_meet
          exact ⟨_, HIr.out.set k 1 (abV_one l)⟩
        | false =>
          go_wp2_with fail
          go_meet
          exact ⟨_, HIr.out⟩
      case rest =>
        obtain ⟨s1, hI1⟩ := hcut
        obtain ⟨hbb, A, ca, hrep, n0, n1, n2, n3, n4⟩ := Hh.out.item hx
        have hbw : b < w.heap.size := Nat.lt_of_lt_of_le hbB hB
        have hfb := hI1.fr.2
        replace n0 := (hfb.cell (p := ⟨b, _, none⟩) hbw).trans n0
        replace n1 := (hfb.cell (p := ⟨b, _, none⟩) hbw).trans n1
        replace n2 := (hfb.cell (p := ⟨b, _, none⟩) hbw).trans n2
        replace n3 := (hfb.cell (p := ⟨b, _, none⟩) hbw).trans n3
        replace n4 := (hfb.cell (p := ⟨b, _, none⟩) hbw).trans n4
        have hargs := hrep.args
        obtain ⟨-, -, hq⟩ := hq
        have hxl := Hal.out x hxm
        obtain ⟨kd, lo, hi, tx, args⟩ := x
        simp only at hargs hq hxl n0 n1 n2 n3 n4
        have HI1 := Lib.hid hI1; have Hargs := Lib.hid hargs; have Hq := Lib.hid hq
        have q7 := hI1.lims; have hz1 := hI1.size
        clear hI1 hargs hq hrep p0 p7 hc hz hfb hsl hv
        have hla : args.length ≤ 9223372036854775807 := by omega
        go_upto_block 1 with fail
        have hI2 : AbI w l (some ⟨b, off, none⟩) c4 s1 (wc.alloc (.cells #[.int .i64 kd, .int .i64 lo, .int .i64 hi, .string ⟨tx.toArray⟩, .slice A args.length ca] 66)) := HI1.out.alloc _
        have hbx : BoxN (wc.alloc (.cells #[.int .i64 kd, .int .i64 lo, .int .i64 hi, .string ⟨tx.toArray⟩, .slice A args.length ca] 66)) wc.heap.size kd A args.length ca := ⟨cell_new wc _ _ 0, cell_new wc _ _ 4⟩
        have HI2 := Lib.hid hI2; have HBx := Lib.hid hbx
        have hgz : w.heap.size + 1 < wc.heap.size := by omega
        clear hI2 hbx q7 hz1 n0 n1 n2 n3 n4
        generalize wc.alloc (.cells #[.int .i64 kd, .int .i64 lo, .int .i64 hi, .string ⟨tx.toArray⟩, .slice A args.length ca] 66) = Wd at *
        go_loopw [6, 7] (fun i _ wr => ∃ (j : Nat) (s : List Int), j ≤ args.length ∧ i = .int .i64 j ∧ Hid (AbI w l (some ⟨b, off, none⟩) c4 s wr) ∧ BoxN wr wc.heap.size kd A args.length ca) (fun i _ _ => args.length - (intOf i).toNat)
        case atStart => exact ⟨0, s1, Nat.zero_le _, by go_num, HI2, HBx.out⟩
        case round =>
          obtain ⟨j, s2, hj, rfl, HI3, hb0, hb4⟩ := hrel
          have hj0 : (0 : Int) ≤ j := by omega
          by_cases hjl : j < args.length
          · have hji : (j : Int) < args.length := by omega
            obtain ⟨a, ha⟩ : ∃ a, args[j]? = some a := ⟨_, List.getElem?_eq_getElem hjl⟩
            obtain ⟨ha0, ha1⟩ := Hq.out a (List.mem_of_getElem? ha)
            obtain ⟨aN, rfl⟩ : ∃ aN : Nat, a = (aN : Int) := ⟨a.toNat, by omega⟩
            have hal2 : (aN : Int) < l.length := by omega
            rcases Hargs.out with h0 | ⟨ab, ao, hA, hab, hac⟩
            · rw [h0] at hjl; simp at hjl
            subst hA
            have hca := (HI3.out.fr.2.cell (p := ⟨ab, ao + j, none⟩) (Nat.lt_of_lt_of_le hab hB)).trans (hac j _ ha)
            have hsl := HI3.out.len
            obtain ⟨v1, hv1⟩ : ∃ v, s2[k]? = some v := ⟨_, List.getElem?_eq_getElem (by omega)⟩
            obtain ⟨v2, hv2⟩ : ∃ v, s2[aN]? = some v := ⟨_, List.getElem?_eq_getElem (by omega)⟩
            have c1 := HI3.out.row.1 _ _ hv1
            have c2 := HI3.out.row.1 _ _ hv2
            have z2 := HI3.out.row.2 _ _ hv2
            have hov := Lib.hid (HI3.out.vals _ (List.mem_of_getElem? hv1))
            clear hsl hv1 hv2 hac
            by_cases h2 : kd = 2
            · subst h2
              go_wp2_with fail
              go_roundw
              case rel => exact ⟨j + 1, _, by omega, by go_num, Lib.hid (HI3.out.set aN 5 (abV_five hxm rfl)), BoxN.set ⟨hb0, hb4⟩ (by omega) _⟩
              case measure => simp [intOf] <;> omega
            by_cases h3 : kd = 3
            · subst h3
              go_wp2_with fail
              go_roundw
              case rel => exact ⟨j + 1, _, by omega, by go_num, Lib.hid (HI3.out.set aN 6 (abV_six hxm rfl)), BoxN.set ⟨hb0, hb4⟩ (by omega) _⟩
              case measure => simp [intOf] <;> omega
            have h2b : (kd == 2) = false := by simpa using h2
            have h3b : (kd == 3) = false := by simpa using h3
            go_wp2_with fail
            go_roundw
            case rel => exact ⟨j + 1, _, by omega, by go_num, Lib.hid (HI3.out.set aN v1 hov.out), BoxN.set ⟨hb0, hb4⟩ (by omega) _⟩
            case measure => simp [intOf] <;> omega
          · have hji : ¬ (j : Int) < args.length := by omega
            go_wp2_with fail
            go_roundw
            case rel => exact ⟨k, s2, by omega, by go_num, HI3.out⟩
            case measure => simp [intOf] <;> omega
end Go.Proofs.YtgdedcdjfljcnaaGreatDoor
