/- The reference's error of a type of whole numbers: ranges, forms, shapes, names, own, within, TypeErr. What an operation makes of two sets of spans: which numbers are in it, that it is in order, and how many spans it has at most. Kinds of types that have fields, and those that have a constraint, at whole numbers. -/
import Derived.Test.YtgdedcdjfljcnaaGreatDoorM09
namespace Go.Proofs.YtgdedcdjfljcnaaGreatDoor
open Go.RowKit

/-- Fields in memory, as far as a type of whole numbers is looked at. -/
def FldAt (B : Nat) (w : World) (A : Option Addr) (l : List FD) : Prop := l = [] ∨ ∃ b off, A = some ⟨b, off, none⟩ ∧ b < B ∧ ∀ i d, l[i]? = some d → w.cell? ⟨b, off + i * 13 + 10, none⟩ = some (.int .i64 d.pres) ∧ w.cell? ⟨b, off + i * 13 + 12, none⟩ = some (.int .i64 d.grp)
theorem FldAt.keep {B : Nat} {w w' : World} {A : Option Addr} {l : List FD} (h : FldAt B w A l) (hf : Below B w w') : FldAt B w' A l := by
  rcases h with h | ⟨b, off, h1, h2, h3⟩
  · exact .inl h
  · exact .inr ⟨b, off, h1, h2, fun i t ht => by
      obtain ⟨k0, k1⟩ := h3 i t ht
      exact ⟨(hf.cell (p := ⟨b, off + i * 13 + 10, none⟩) h2).trans k0, (hf.cell (p := ⟨b, off + i * 13 + 12, none⟩) h2).trans k1⟩⟩
set_option maxRecDepth 20000 in
set_option maxHeartbeats 1000000 in
theorem rRanges {B : Nat} (name : List UInt8) (tags : List TG) (fds : List FD) (opn : Bool) (root : Int) (ofn : Nat) (lims : List LN) (A1 A2 A3 A4 : Option Addr) (c1 c2 c3 c4 : Nat) (w : World) (hT : TagAt B w A1 tags) (hF : FldAt B w A2 fds) (hB : B ≤ w.heap.size) (hl1 : tags.length ≤ maxLen) (hl2 : fds.length ≤ maxLen) :
    Calls Tryz.prog 120 #[.agg #[.int .i64 2, .string ⟨name.toArray⟩, .slice A1 tags.length c1, .slice A2 fds.length c2, .bool opn, .int .i64 root, .slice A3 ofn c3, .slice A4 lims.length c4]] w fun e w' => (∃ r, e = .returned (.bool r) ∧ (r = false → ∀ t ∈ tags, tagB t = true)) ∧ Fr w.heap.size w w' := by
  have hf := (Fr.self w).alloc (.cells #[.int .i64 2, .string ⟨name.toArray⟩, .slice A1 tags.length c1, .slice A2 fds.length c2, .bool opn, .int .i64 root, .slice A3 ofn c3, .slice A4 lims.length c4] 28)
  have hk := fun k => cell_new w #[.int .i64 2, .string ⟨name.toArray⟩, .slice A1 tags.length c1, .slice A2 fds.length c2, .bool opn, .int .i64 root, .slice A3 ofn c3, .slice A4 lims.length c4] 28 k
  have HT := Lib.hid hT; have HF := Lib.hid hF; have Hk := Lib.hid hk
  have hl1' : tags.length ≤ 9223372036854775807 := hl1
  have hl2' : fds.length ≤ 9223372036854775807 := hl2
  have Hwi := Lib.hid within_any
  clear hT hF hl1 hl2 hk
  go_enter Tryz.func120, Tryz.ntmps120
  go_wp2_with fail
  go_loopw [3] (fun i wr => ∃ m : Nat, m ≤ tags.length ∧ i = .int .i64 m ∧ Fr w.heap.size w wr ∧ (∀ k, wr.cell? ⟨w.heap.size, k, none⟩ = #[.int .i64 2, .string ⟨name.toArray⟩, .slice A1 tags.length c1, .slice A2 fds.length c2, .bool opn, .int .i64 root, .slice A3 ofn c3, .slice A4 lims.length c4][k]?) ∧ Hid (∀ i t, i < m → tags[i]? = some t → tagB t = true)) (fun i _ => tags.length - (intOf i).toNat)
  case atStart => exact ⟨0, by omega, by go_num, hf, Hk.out, fun i t h => absurd h (Nat.not_lt_zero _)⟩
  case round =>
    obtain ⟨m, hml, rfl, hfr, hkr, HR⟩ := hrel
    have hzr : w.heap.size < wr.heap.size := cell_block (hkr 0)
    have Hkr := Lib.hid hkr
    by_cases hlt : m < tags.length
    · obtain ⟨t, ht⟩ : ∃ t, tags[m]? = some t := ⟨_, List.getElem?_eq_getElem hlt⟩
      obtain ⟨b, off, rfl, -, hc⟩ := (HT.out.keep (hfr.2.mono hB)).resolve_left (by rintro rfl; simp at hlt)
      obtain ⟨k0, k1, k2⟩ := hc m t ht
      have hmn : (0 : Int) ≤ m := by omega
      have hmm : (m : Int) < tags.length := by omega
      have p2 := hkr 2
      obtain ⟨x, y, z⟩ := t
      have htb : tagB ⟨x, y, z⟩ = decide (1 ≤ x ∧ x ≤ 3 ∧ 0 ≤ y ∧ y ≤ 100000 ∧ 0 ≤ z ∧ z ≤ 2) := rfl
      have Hnext : Hid (tagB ⟨x, y, z⟩ = true → ∀ i t, i < m + 1 → tags[i]? = some t → tagB t = true) := fun h i t hi hit => by
        rcases Nat.lt_or_ge i m with h1 | h1
        · exact HR.out i t h1 hit
        · obtain rfl : i = m := by omega
          rw [ht] at hit; injection hit with hit; subst hit; exact h
      have hk2 := fun k => (World.cell?_alloc_lt wr (.cells #[.int .i64 x, .int .i64 y, .int .i64 z] 168) ⟨w.heap.size, k, none⟩ hzr).trans (Hkr.out k)
      have Hk2 := Lib.hid hk2
      clear hc ht hkr hk2
      by_cases hx : 1 ≤ x ∧ x ≤ 3
      · by_cases hy : 0 ≤ y ∧ y ≤ 100000
        · by_cases hz : 0 ≤ z ∧ z ≤ 2
          · have Hgo := Lib.hid (Hnext.out (by rw [htb]; exact decide_eq_true ⟨hx.1, hx.2, hy.1, hy.2, hz.1, hz.2⟩))
            clear Hnext htb
            go_wp2_with (go_at_call 6; refine (within_yes _ (by omega)).mono ?_; rintro e w' ⟨rfl, rfl⟩)
            go_roundw
            case rel => exact ⟨m + 1, by omega, by go_num, hfr.alloc _, Hk2.out, Hgo⟩
            case measure => simp [intOf] <;> omega
          · clear Hnext htb
            go_wp2_with (go_at_call 6; first | (refine (within_yes _ (by omega)).mono ?_; rintro e w' ⟨rfl, rfl⟩) | (refine (within_no _ (by omega)).mono ?_; rintro e w' ⟨rfl, rfl⟩))
            go_ret
            exact ⟨⟨true, rfl, fun h => by cases h⟩, hfr.alloc _⟩
        · clear Hnext htb
          go_wp2_with (go_at_call 6; first | (refine (within_yes _ (by omega)).mono ?_; rintro e w' ⟨rfl, rfl⟩) | (refine (within_no _ (by omega)).mono ?_; rintro e w' ⟨rfl, rfl⟩))
          go_ret
          exact ⟨⟨true, rfl, fun h => by cases h⟩, hfr.alloc _⟩
      · clear Hnext htb
        go_wp2_with (go_at_call 6; refine (within_no _ (by omega)).mono ?_; rintro e w' ⟨rfl, rfl⟩)
        go_ret
        exact ⟨⟨true, rfl, fun h => by cases h⟩, hfr.alloc _⟩
    · obtain rfl : m = tags.length := by omega
      have p2 := hkr 2
      have Hall : Hid (∀ t ∈ tags, tagB t = true) := fun t ht => by
        obtain ⟨i, hi, rfl⟩ := List.getElem_of_mem ht
        exact HR.out i _ hi (List.getElem?_eq_getElem hi)
      clear hkr HR
      go_wp2_with fail
      go_loopw [5] (fun i w2 => ∃ m : Nat, m ≤ fds.length ∧ i = .int .i64 m ∧ Fr w.heap.size w w2 ∧ (∀ k, w2.cell? ⟨w.heap.size, k, none⟩ = #[.int .i64 2, .string ⟨name.toArray⟩, .slice A1 tags.length c1, .slice A2 fds.length c2, .bool opn, .int .i64 root, .slice A3 ofn c3, .slice A4 lims.length c4][k]?)) (fun i _ => fds.length - (intOf i).toNat)
      case atStart => exact ⟨0, by omega, by go_num, hfr, Hkr.out⟩
      case round =>
        obtain ⟨m, hml2, rfl, hfr2, hkr2⟩ := hrel
        have p3 := hkr2 3
        by_cases hlt2 : m < fds.length
        · obtain ⟨d, hd⟩ : ∃ d, fds[m]? = some d := ⟨_, List.getElem?_eq_getElem hlt2⟩
          obtain ⟨b, off, rfl, -, hc⟩ := (HF.out.keep (hfr2.2.mono hB)).resolve_left (by rintro rfl; simp at hlt2)
          obtain ⟨k0, k1⟩ := hc m d hd
          have hmn : (0 : Int) ≤ m := by omega
          have hmm : (m : Int) < fds.length := by omega
          obtain ⟨nm, nu, pr, df, gr⟩ := d
          simp only at k0 k1
          have Hkr2 := Lib.hid hkr2
          clear hc hd hkr2
          by_cases hp : 0 ≤ pr ∧ pr ≤ 2
          · by_cases hg : gr < 0
            · go_wp2_with (go_at_call 6; refine (within_yes _ (by omega)).mono ?_; rintro e w' ⟨rfl, rfl⟩)
              go_ret
              exact ⟨⟨true, rfl, fun h => by cases h⟩, hfr2⟩
            · go_wp2_with (go_at_call 6; refine (within_yes _ (by omega)).mono ?_; rintro e w' ⟨rfl, rfl⟩)
              go_roundw
              case rel => exact ⟨m + 1, by omega, by go_num, hfr2, Hkr2.out⟩
              case measure => simp [intOf] <;> omega
          · go_wp2_with (go_at_call 6; refine (within_no _ (by omega)).mono ?_; rintro e w' ⟨rfl, rfl⟩)
            go_ret
            exact ⟨⟨true, rfl, fun h => by cases h⟩, hfr2⟩
        · have p5 := hkr2 5
          clear hkr2
          go_wp2_with (go_at_call 6; refine (Hwi.out _ _ _ _).mono ?_; rintro e w' ⟨rfl, rfl⟩)
          go_ret
          exact ⟨⟨_, rfl, fun _ => Hall.out⟩, hfr2⟩
end Go.Proofs.YtgdedcdjfljcnaaGreatDoor
namespace Go.Proofs.YtgdedcdjfljcnaaGreatDoor
open Go.RowKit

/-- Spans in order, each with numbers, with a number between two of them. -/
def Canon (l : List Sp) : Prop := l.Pairwise (fun s t => s.hi + 1 < t.lo) ∧ ∀ s ∈ l, s.lo ≤ s.hi
theorem inB_append (a b : List Sp) (n : Int) : inB (a ++ b) n = (inB a n || inB b n) := List.any_append
theorem inB_one (s : Sp) (n : Int) : inB [s] n = decide (s.lo ≤ n ∧ n ≤ s.hi) := by simp [inB]
theorem inB_below {l : List Sp} {x n : Int} (h : ∀ p ∈ l, p.hi < x) (hn : x ≤ n) : inB l n = false := by
  unfold inB
  rw [List.any_eq_false]
  intro s hs
  have := h s hs
  simp; omega
theorem inB_app {out : List Sp} {x y n : Int} (h : ∀ p ∈ out, p.lo ≤ p.hi) (hxy : x < y) : inB (appL out ⟨x, y - 1⟩) n = (inB out n || decide (x ≤ n ∧ n ≤ y - 1)) := by
  rcases List.eq_nil_or_concat out with rfl | ⟨o, q, rfl⟩
  · rw [appL_nil, inB_one]; simp [inB]
  · rw [List.concat_eq_append] at *
    have hq := h q (by simp)
    by_cases he : q.hi + 1 = x
    · rw [appL_join (s := ⟨x, y - 1⟩) he, inB_append, inB_append, inB_one, inB_one, Bool.or_assoc]
      congr 1
      rw [Bool.eq_iff_iff]; simp; omega
    · rw [appL_apart (s := ⟨x, y - 1⟩) he, inB_append, inB_one]
theorem canon_app {out : List Sp} {x y : Int} (h : Canon out) (hb : ∀ p ∈ out, p.hi < x) (hxy : x < y) : Canon (appL out ⟨x, y - 1⟩) ∧ ∀ p ∈ appL out ⟨x, y - 1⟩, p.hi < y := by
  rcases List.eq_nil_or_concat out with rfl | ⟨o, q, rfl⟩
  · rw [appL_nil]
    refine ⟨⟨by simp, fun s hs => ?_⟩, fun s hs => ?_⟩ <;> (rw [List.mem_singleton] at hs; subst hs; simp only; omega)
  · rw [List.concat_eq_append] at *
    obtain ⟨h1, h2⟩ := h
    rw [List.pairwise_append] at h1
    have hq := hb q (by simp)
    have hq2 := h2 q (by simp)
    by_cases he : q.hi + 1 = x
    · rw [appL_join (s := ⟨x, y - 1⟩) he]
      refine ⟨⟨?_, fun s hs => ?_⟩, fun s hs => ?_⟩
      · rw [List.pairwise_append]
        exact ⟨h1.1, by simp, fun s hs t ht => by rw [List.mem_singleton] at ht; subst ht; exact h1.2.2 s hs q (by simp)⟩
      · rw [List.mem_append, List.mem_singleton] at hs
        rcases hs with hs | rfl
        · exact h2 s (by simp [hs])
        · simp only; omega
      · rw [List.mem_append, List.mem_singleton] at hs
        rcases hs with hs | rfl
        · have := hb s (by simp [hs]); omega
        · simp only; omega
    · rw [appL_apart (s := ⟨x, y - 1⟩) he]
      refine ⟨⟨?_, fun s hs => ?_⟩, fun s hs => ?_⟩
      · rw [List.pairwise_append]
        refine ⟨List.pairwise_append.2 h1, by simp, fun s hs t ht => ?_⟩
        rw [List.mem_singleton] at ht
        subst ht
        rcases List.mem_append.1 hs with hs | hs
        · have h3 := h1.2.2 s hs q (by simp)
          simp only; omega
        · rw [List.mem_singleton] at hs; subst hs; simp only; omega
      · rw [List.mem_append, List.mem_singleton] at hs
        rcases hs with hs | rfl
        · exact h2 s hs
        · simp only; omega
      · rw [List.mem_append, List.mem_singleton] at hs
        rcases hs with hs | rfl
        · have := hb s hs; omega
        · simp only; omega
theorem app_bound {out : List Sp} {x y mn mx : Int} (h : ∀ p ∈ out, mn ≤ p.lo ∧ p.hi ≤ mx) (h1 : mn ≤ x) (h2 : y - 1 ≤ mx) : ∀ p ∈ appL out ⟨x, y - 1⟩, mn ≤ p.lo ∧ p.hi ≤ mx := by
  intro s hs
  rcases List.eq_nil_or_concat out with rfl | ⟨o, q, rfl⟩
  · rw [appL_nil, List.mem_singleton] at hs; subst hs; exact ⟨h1, h2⟩
  · rw [List.concat_eq_append] at *
    have hq := h q (by simp)
    by_cases he : q.hi + 1 = x
    · rw [appL_join (s := ⟨x, y - 1⟩) he, List.mem_append, List.mem_singleton] at hs
      rcases hs with hs | rfl
      · exact h s (by simp [hs])
      · exact ⟨hq.1, h2⟩
    · rw [appL_apart (s := ⟨x, y - 1⟩) he, List.mem_append, List.mem_singleton] at hs
      rcases hs with hs | rfl
      · exact h s hs
      · exact ⟨h1, h2⟩
/-- Between two edges nothing changes. -/
theorem flat_same {l : List Sp} {L : List Int} {x y n : Int} (hL : ∀ s ∈ l, s.lo ∈ L ∧ s.hi + 1 ∈ L) (hxy : ∀ z ∈ L, z ≤ x ∨ y ≤ z) (h1 : x ≤ n) (h2 : n ≤ y - 1) : inB l n = inB l x := by
  unfold inB
  rw [Bool.eq_iff_iff, List.any_eq_true, List.any_eq_true]
  constructor
  · rintro ⟨s, hs, h⟩
    refine ⟨s, hs, ?_⟩
    obtain ⟨a1, a2⟩ := hL s hs
    have b1 := hxy _ a1; have b2 := hxy _ a2
    simp at h ⊢; omega
  · rintro ⟨s, hs, h⟩
    refine ⟨s, hs, ?_⟩
    obtain ⟨a1, a2⟩ := hL s hs
    have b1 := hxy _ a1; have b2 := hxy _ a2
    simp at h ⊢; omega
theorem inB_after {l : List Sp} {L : List Int} {x n : Int} (hL : ∀ s ∈ l, s.lo ∈ L ∧ s.hi + 1 ∈ L) (hx : ∀ z ∈ L, z ≤ x) (h : x ≤ n) : inB l n = false := by
  unfold inB
  rw [List.any_eq_false]
  intro s hs
  have := hx _ (hL s hs).2
  simp; omega
theorem inB_before {l : List Sp} {L : List Int} {x n : Int} (hL : ∀ s ∈ l, s.lo ∈ L ∧ s.hi + 1 ∈ L) (hx : ∀ z ∈ L, x ≤ z) (h : n < x) : inB l n = false := by
  unfold inB
  rw [List.any_eq_false]
  intro s hs
  have := hx _ (hL s hs).1
  simp; omega
/-- A set may go on at a number. -/
def openB (out : List Sp) (x : Int) : Bool := match out.getLast? with | some p => decide (p.hi + 1 = x) | none => false
theorem openB_app (out : List Sp) (x y : Int) : openB (appL out ⟨x, y - 1⟩) y = true ∧ (appL out ⟨x, y - 1⟩).length = out.length + (if openB out x = true then 0 else 1) := by
  rcases List.eq_nil_or_concat out with rfl | ⟨o, q, rfl⟩
  · rw [appL_nil]; simp [openB]
  · rw [List.concat_eq_append] at *
    by_cases he : q.hi + 1 = x
    · rw [appL_join (s := ⟨x, y - 1⟩) he]; simp [openB, he]
    · rw [appL_apart (s := ⟨x, y - 1⟩) he]; simp [openB, he]
theorem openB_far {out : List Sp} {x y : Int} (h : ∀ p ∈ out, p.hi < x) (hxy : x < y) : openB out y = false := by
  unfold openB
  rcases List.eq_nil_or_concat out with rfl | ⟨o, q, rfl⟩
  · rfl
  · rw [List.concat_eq_append] at *
    have := h q (by simp)
    simp; omega
theorem build_ok (op : Int) (a b : List Sp) (L : List Int) (mn mx : Int) (ha : ∀ s ∈ a, s.lo ∈ L ∧ s.hi + 1 ∈ L) (hb : ∀ s ∈ b, s.lo ∈ L ∧ s.hi + 1 ∈ L) (hlo : ∀ z ∈ L, mn ≤ z ∧ z ≤ mx + 1) :
    ∀ (R : List Int) (P : List Int) (x : Int) (out : List Sp), L = P ++ x :: R → L.Pairwise (· < ·) → Canon out → (∀ p ∈ out, p.hi < x) → (∀ p ∈ out, mn ≤ p.lo ∧ p.hi ≤ mx) → (∀ n, n < x → inB out n = isInB op (inB a n) (inB b n)) →
      2 * out.length ≤ P.length + (if openB out x = true then 1 else 0) →
      Canon (buildC op a b (x :: R) out) ∧ (∀ p ∈ buildC op a b (x :: R) out, mn ≤ p.lo ∧ p.hi ≤ mx) ∧ (∀ n, inB (buildC op a b (x :: R) out) n = isInB op (inB a n) (inB b n)) ∧ 2 * (buildC op a b (x :: R) out).length ≤ L.length
  | [], P, x, out, hL, hs, hc, hx, hbd, hin, hlen => by
    rw [buildC]
    refine ⟨hc, hbd, fun n => ?_, ?_⟩
    · rcases Int.lt_or_le n x with h | h
      · exact hin n h
      · have hmax : ∀ z ∈ L, z ≤ x := by
          intro z hz
          rw [hL, List.mem_append, List.mem_singleton] at hz
          rcases hz with hz | rfl
          · rw [hL, List.pairwise_append] at hs
            exact Int.le_of_lt (hs.2.2 z hz x (by simp))
          · exact Int.le_refl _
        rw [inB_below hx h, inB_after ha hmax h, inB_after hb hmax h, isIn_none]
    · rw [hL, List.length_append, List.length_singleton]
      split at hlen <;> omega
  | y :: t, P, x, out, hL, hs, hc, hx, hbd, hin, hlen => by
    rw [buildC]
    have hs' := hs
    rw [hL, List.pairwise_append] at hs'
    obtain ⟨hs1, hs2, hs3⟩ := hs'
    rw [List.pairwise_cons] at hs2
    have hxy : x < y := hs2.1 y (by simp)
    have hgap : ∀ z ∈ L, z ≤ x ∨ y ≤ z := by
      intro z hz
      rw [hL, List.mem_append, List.mem_cons, List.mem_cons] at hz
      rcases hz with hz | rfl | rfl | hz
      · exact .inl (Int.le_of_lt (hs3 z hz x (by simp)))
      · exact .inl (Int.le_refl _)
      · exact .inr (Int.le_refl _)
      · exact .inr (Int.le_of_lt ((List.pairwise_cons.1 hs2.2).1 z hz))
    have hxL := hlo x (by rw [hL]; simp)
    have hyL := hlo y (by rw [hL]; simp)
    have hL' : L = (P ++ [x]) ++ y :: t := by rw [hL]; simp
    have hmid : ∀ n, x ≤ n → n < y → isInB op (inB a n) (inB b n) = isInB op (inB a x) (inB b x) := fun n h1 h2 => by
      rw [flat_same ha hgap h1 (by omega), flat_same hb hgap h1 (by omega)]
    unfold stepC
    by_cases hi : isInB op (inB a x) (inB b x) = true
    · rw [if_pos hi]
      obtain ⟨hc', hx'⟩ := canon_app hc hx hxy
      obtain ⟨ho1, ho2⟩ := openB_app out x y
      refine build_ok op a b L mn mx ha hb hlo t (P ++ [x]) y _ hL' hs hc' hx' ?_ ?_ ?_
      · exact app_bound hbd (by omega) (by omega)
      · intro n hn
        rw [inB_app hc.2 hxy]
        rcases Int.lt_or_le n x with h | h
        · rw [hin n h]
          have : decide (x ≤ n ∧ n ≤ y - 1) = false := by simp; omega
          rw [this, Bool.or_false]
        · rw [hmid n h hn, hi]
          have : decide (x ≤ n ∧ n ≤ y - 1) = true := by simp; omega
          rw [this, Bool.or_true]
      · rw [ho1, ho2, List.length_append, List.length_singleton, if_pos rfl]
        split at hlen <;> rename_i h <;> simp [h] <;> omega
    · rw [if_neg hi]
      have hif : isInB op (inB a x) (inB b x) = false := by simpa using hi
      refine build_ok op a b L mn mx ha hb hlo t (P ++ [x]) y _ hL' hs hc (fun p hp => Int.lt_trans (hx p hp) hxy) hbd ?_ ?_
      · intro n hn
        rcases Int.lt_or_le n x with h | h
        · exact hin n h
        · rw [hmid n h hn, hif, inB_below hx h]
      · rw [openB_far hx hxy, List.length_append, List.length_singleton]
        simp
        split at hlen <;> omega
theorem flat_lo {l : List Sp} {s : Sp} (h : s ∈ l) : s.lo ∈ flatS l := by
  induction l with
  | nil => cases h
  | cons t r ih =>
    rw [flatS]
    rcases List.mem_cons.1 h with rfl | h
    · simp
    · simp [ih h]
theorem edges_length (l : List Sp) : (edgesL l).length ≤ 2 * l.length := by
  rw [← compact_edges, ← flatS_length]
  exact Nat.le_trans (compact_length _) (Nat.le_of_eq (sort_length _))
theorem edges_of {l m : List Sp} (h : ∀ s ∈ m, s ∈ l) : ∀ s ∈ m, s.lo ∈ edgesL l ∧ s.hi + 1 ∈ edgesL l := fun s hs => ⟨(edges_mem l _).2 (flat_lo (h s hs)), (edges_mem l _).2 (flat_hi (h s hs))⟩
/-- What an operation makes of two sets of whole numbers: in order, whole numbers, with just the numbers that it should have, and no more spans than the two have. -/
theorem combine_ok (op : Int) (a b : List Sp) (ha : ∀ s ∈ a, okB s = true) (hb : ∀ s ∈ b, okB s = true) :
    Canon (combineL op a b) ∧ (∀ s ∈ combineL op a b, okB s = true) ∧ (∀ n, inB (combineL op a b) n = isInB op (inB a n) (inB b n)) ∧ (combineL op a b).length ≤ a.length + b.length := by
  have hab : ∀ s ∈ a ++ b, okB s = true := fun s hs => by
    rcases List.mem_append.1 hs with h | h
    · exact ha s h
    · exact hb s h
  have hea := edges_of (l := a ++ b) (m := a) (fun s hs => List.mem_append_left _ hs)
  have heb := edges_of (l := a ++ b) (m := b) (fun s hs => List.mem_append_right _ hs)
  have hst := edges_strict (a ++ b)
  have hbd : ∀ z ∈ edgesL (a ++ b), -1152921504606846976 ≤ z ∧ z ≤ 1152921504606846976 + 1 := fun z hz => edges_in hab z hz
  have hlen := edges_length (a ++ b)
  rw [List.length_append] at hlen
  unfold combineL
  generalize edgesL (a ++ b) = L at *
  rcases L with _ | ⟨x, R⟩
  · rw [buildC]
    have hna : a = [] := by
      rcases a with _ | ⟨s, r⟩
      · rfl
      · exact absurd (hea s (by simp)).1 (by simp)
    have hnb : b = [] := by
      rcases b with _ | ⟨s, r⟩
      · rfl
      · exact absurd (heb s (by simp)).1 (by simp)
    subst hna; subst hnb
    exact ⟨⟨by simp, by simp⟩, by simp, fun n => by simp [inB, isIn_none], by simp⟩
  · obtain ⟨h1, h2, h3, h4⟩ := build_ok op a b (x :: R) (-1152921504606846976) 1152921504606846976 hea heb hbd R [] x [] rfl hst ⟨by simp, by simp⟩ (by simp) (by simp)
      (fun n hn => by
        have hmin : ∀ z ∈ x :: R, x ≤ z := by
          intro z hz
          rcases List.mem_cons.1 hz with rfl | hz
          · exact Int.le_refl _
          · exact Int.le_of_lt ((List.pairwise_cons.1 hst).1 z hz)
        rw [inB_before hea hmin hn, inB_before heb hmin hn, isIn_none]; rfl) (by simp)
    refine ⟨h1, fun s hs => ?_, h3, by omega⟩
    obtain ⟨k1, k2⟩ := h2 s hs
    exact decide_eq_true ⟨h1.2 s hs, k1, k2⟩
/-- Spans in order are right. -/
theorem canon_err {l : List Sp} (h : Canon l) (hok : ∀ s ∈ l, okB s = true) (hl : l.length ≤ 40) : spErr l = ((l.length : Int), 0) := by
  unfold spErr
  rw [if_neg (by omega)]
  have key : ∀ n k, l.length - k = n → spFrom l k = ((l.length : Int), 0) := by
    intro n
    induction n with
    | zero => intro k hk; exact spFrom_end (by omega)
    | succ n ih =>
      intro k hk
      obtain ⟨s, hs⟩ : ∃ s, l[k]? = some s := ⟨_, List.getElem?_eq_getElem (by omega)⟩
      rw [spFrom_at hs, if_pos (hok s (List.mem_of_getElem? hs))]
      have hn : nearB l k s = false := by
        rcases k with _ | j
        · rfl
        · obtain ⟨p, hp⟩ : ∃ p, l[j]? = some p := ⟨_, List.getElem?_eq_getElem (by omega)⟩
          rw [nearB_succ hp]
          obtain ⟨h1, e1⟩ := List.getElem?_eq_some_iff.1 hp
          obtain ⟨h2, e2⟩ := List.getElem?_eq_some_iff.1 hs
          have := List.pairwise_iff_getElem.1 h.1 j (j + 1) h1 h2 (by omega)
          rw [e1, e2] at this
          simp; omega
      rw [hn]
      simp only [Bool.false_eq_true, if_false]
      exact ih (k + 1) (by omega)
  exact key _ 0 rfl
end Go.Proofs.YtgdedcdjfljcnaaGreatDoor
namespace Go.Proofs.YtgdedcdjfljcnaaGreatDoor
open Go.RowKit

theorem undef_bool (b : Bool) : (undef = Value.bool b) = False := by simp [undef]
theorem undef_bool2 (b : Bool) : (Value.bool b = undef) = False := by simp [undef]
theorem has_two (w : World) (g n c : Nat) (hn : 0 < n) (h : w.cell? ⟨g, 0, none⟩ = some (.int .i64 2)) : Calls Tryz.prog 173 #[.slice (some ⟨g, 0, none⟩) n c, .int .i64 2] w fun e w' => e = .returned (.bool true) ∧ w = w' := by
  have hn' : (0 : Int) < n := by omega
  go_enter Tryz.func173, Tryz.ntmps173
  go_wp2_with fail
  refine wp_loop_rounds 1 ?_
  rw [rounds_succ]
  go_wp2_with fail
  go_ret
  exact ⟨rfl, rfl⟩
theorem isRecord_two (w : World) : Calls Tryz.prog 145 #[.int .i64 2] w fun e w' => e = .returned (.bool false) ∧ w = w' := by
  go_enter Tryz.func145, Tryz.ntmps145
  go_wp2
  go_ret
  exact ⟨rfl, rfl⟩
theorem isLimited_two (w : World) : Calls Tryz.prog 146 #[.int .i64 2] w fun e w' => e = .returned (.bool true) ∧ Fr w.heap.size w w' := by
  have hf := Fr.self w
  go_enter Tryz.func146, Tryz.ntmps146
  go_wp2_with fail
  have hH := has_two (w.alloc (.cells #[.int .i64 2, .int .i64 4, .int .i64 5, .int .i64 6, .int .i64 11, .int .i64 12, .int .i64 15] 3)) w.heap.size 7 7 (by simp) (cell_new w _ _ 0)
  refine hH.mono ?_
  rintro e w1 ⟨rfl, rfl⟩
  go_wp2_with fail
  go_ret
  exact ⟨rfl, hf.alloc _⟩
end Go.Proofs.YtgdedcdjfljcnaaGreatDoor
