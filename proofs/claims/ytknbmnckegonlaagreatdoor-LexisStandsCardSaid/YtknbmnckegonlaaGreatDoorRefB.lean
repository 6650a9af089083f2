/- Contracts on the reference: comments that end with their line, and what begins a comment. -/
import Derived.Test.YtknbmnckegonlaaGreatDoorRefA
namespace Go.Proofs.YtknbmnckegonlaaGreatDoor
open Go.RowKit

/-- What the reference says of comments that end with their line. -/
def lineRes (b : Bool) (n : Nat) : Value := if b = true then .tuple #[.int .i64 (n : Int), .bool true] else .tuple #[.int .i64 0, .bool false]
set_option maxRecDepth 100000 in
theorem rLine_any (lang : Int) (asn : Bool) (hl : (lang == 0) = asn) (s : ByteArray) (l : List UInt8) (hs : s.data.toList = l) (k0 : Nat) (w : World) (hm : s.size ≤ 10000) (hk0 : k0 ≤ s.size)
    (hp : [47, 42].isPrefixOf (l.drop k0) = false) :
    Calls Tryz.prog 69 #[.int .i64 lang, .string s, .int .i64 k0] w fun e w' =>
      e = .returned (lineRes ((if asn = true then [45, 45] else [47, 47] : List UInt8).isPrefixOf (l.drop k0)) (k0 + (lineTail asn (l.drop (k0 + 2)) + 2))) ∧ w = w' := by
  have Hh := Lib.hid (has2_any s l hs hm)
  have Hs := Lib.hid hs; have Hp := Lib.hid hp
  cases hq : (if asn = true then [45, 45] else [47, 47] : List UInt8).isPrefixOf (l.drop k0) with
  | false =>
    have Hq := Lib.hid hq; clear hs hp hq
    rcases asn
    · go_enter Tryz.func69, Tryz.ntmps69
      go_wp2_with (go_at_call 74; refine (Hh.out _ _ k0 _ (by omega)).mono ?_; rintro e w' ⟨rfl, rfl⟩; first | rw [Hp.out] | rw [show [47, 47].isPrefixOf (l.drop k0) = false from Hq.out])
      go_ret2
      exact ⟨rfl, rfl⟩
    · go_enter Tryz.func69, Tryz.ntmps69
      go_wp2_with (go_at_call 74; refine (Hh.out _ _ k0 _ (by omega)).mono ?_; rintro e w' ⟨rfl, rfl⟩; first | rw [Hp.out] | rw [show [45, 45].isPrefixOf (l.drop k0) = false from Hq.out])
      go_ret2
      exact ⟨rfl, rfl⟩
  | true =>
    have hk2 : k0 + 2 ≤ s.size := by
      have h := (List.isPrefixOf_iff_prefix.1 hq).length_le
      rw [List.length_drop, ← ba_len hs] at h
      have : (if asn = true then [45, 45] else [47, 47] : List UInt8).length = 2 := by cases asn <;> rfl
      omega
    have Hq := Lib.hid hq; clear hs hp hq
    rcases asn
    · go_enter Tryz.func69, Tryz.ntmps69
      go_wp2_with (go_at_call 74; refine (Hh.out _ _ k0 _ (by omega)).mono ?_; rintro e w' ⟨rfl, rfl⟩; first | rw [Hp.out] | rw [show [47, 47].isPrefixOf (l.drop k0) = true from Hq.out])
      go_loop [11] (fun i => ∃ k : Nat, k0 + 2 ≤ k ∧ k ≤ s.size ∧ i = .int .i64 k ∧ Hid (k0 + (lineTail false (l.drop (k0 + 2)) + 2) = lineTail false (l.drop k) + k)) (fun i => s.size - (intOf i).toNat)
      case atStart => exact ⟨k0 + 2, by omega, by omega, by go_num, by unfold Hid; omega⟩
      case round =>
        obtain ⟨k, hk2', hk, rfl, HR⟩ := hrel
        rcases hd : l.drop k with _ | ⟨c, t⟩
        · have hge := ba_end Hs.out k hd
          have Hd := Lib.hid hd; clear hd
          go_wp2_with fail
          go_ret2
          exact ⟨by rw [HR.out, Hd.out, lineTail]; simp [lineRes], rfl⟩
        · obtain ⟨hlt, hc, ht⟩ := ba_at Hs.out k hd
          have Hd := Lib.hid hd; have Ht := Lib.hid ht; have Hc := Lib.hid hc; clear hd ht
          by_cases h10 : s[k].toNat = 10
          · have hb : ((s[k].toNat : Int) != 10) = false := by rw [h10]; rfl
            have H10 : Hid (c.toNat = 10) := by unfold Hid; rw [← hc]; exact h10
            clear h10 hc
            go_wp2_with fail
            go_ret2
            exact ⟨by rw [HR.out, Hd.out, lineTail, if_pos H10.out]; simp [lineRes], rfl⟩
          · have hb : ((s[k].toNat : Int) != 10) = true := by simp; omega
            have H10 : Hid (¬ c.toNat = 10) := by unfold Hid; rw [← hc]; exact h10
            clear h10 hc
            go_wp2_with fail
            go_round
            case rel => exact ⟨k + 1, by omega, by omega, by go_num, by unfold Hid; rw [HR.out, Hd.out, lineTail, if_neg H10.out, if_neg (by simp), Ht.out]; omega⟩
            case measure => simp [intOf] <;> omega
    · go_enter Tryz.func69, Tryz.ntmps69
      go_wp2_with (go_at_call 74; refine (Hh.out _ _ k0 _ (by omega)).mono ?_; rintro e w' ⟨rfl, rfl⟩; first | rw [Hp.out] | rw [show [45, 45].isPrefixOf (l.drop k0) = true from Hq.out])
      go_loop [11] (fun i => ∃ k : Nat, k0 + 2 ≤ k ∧ k ≤ s.size ∧ i = .int .i64 k ∧ Hid (k0 + (lineTail true (l.drop (k0 + 2)) + 2) = lineTail true (l.drop k) + k)) (fun i => s.size - (intOf i).toNat)
      case atStart => exact ⟨k0 + 2, by omega, by omega, by go_num, by unfold Hid; omega⟩
      case round =>
        obtain ⟨k, hk2', hk, rfl, HR⟩ := hrel
        rcases hd : l.drop k with _ | ⟨c, t⟩
        · have hge := ba_end Hs.out k hd
          have Hd := Lib.hid hd; clear hd
          go_wp2_with fail
          go_ret2
          exact ⟨by rw [HR.out, Hd.out, lineTail]; simp [lineRes], rfl⟩
        · obtain ⟨hlt, hc, ht⟩ := ba_at Hs.out k hd
          have p0 : [45, 45].isPrefixOf (l.drop k) = decide (c.toNat = 45 ∧ t.head? = some 45) := by
            rw [hd]
            cases t with
            | nil => rw [two1]; simp
            | cons e r =>
              rw [two2]
              have : ((c :: e :: r).drop 1).head? = some e := rfl
              rw [decide_eq_decide]
              simp [← UInt8.toNat_inj]
          have Hd := Lib.hid hd; have Ht := Lib.hid ht; have Hc := Lib.hid hc; clear hd ht
          by_cases h10 : s[k].toNat = 10
          · have hb : ((s[k].toNat : Int) != 10) = false := by rw [h10]; rfl
            have H10 : Hid (c.toNat = 10) := by unfold Hid; rw [← hc]; exact h10
            clear h10 hc p0
            go_wp2_with fail
            go_ret2
            exact ⟨by rw [HR.out, Hd.out, lineTail, if_pos H10.out]; simp [lineRes], rfl⟩
          · have hb : ((s[k].toNat : Int) != 10) = true := by simp; omega
            have H10 : Hid (¬ c.toNat = 10) := by unfold Hid; rw [← hc]; exact h10
            clear h10 hc
            by_cases h45 : c.toNat = 45 ∧ t.head? = some 45
            · rw [decide_eq_true h45] at p0
              have H45 := Lib.hid h45
              have P0 := Lib.hid p0; clear p0 h45
              go_wp2_with (go_at_call 74; refine (Hh.out _ _ k _ (by omega)).mono ?_; rintro e w' ⟨rfl, rfl⟩; rw [P0.out])
              go_ret2
              exact ⟨by rw [HR.out, Hd.out, lineTail, if_neg H10.out, if_pos ⟨rfl, H45.out⟩]; simp [lineRes]; omega, rfl⟩
            · rw [decide_eq_false h45] at p0
              have H45 := Lib.hid h45
              have P0 := Lib.hid p0; clear p0 h45
              go_wp2_with (go_at_call 74; refine (Hh.out _ _ k _ (by omega)).mono ?_; rintro e w' ⟨rfl, rfl⟩; rw [P0.out])
              go_round
              case rel => exact ⟨k + 1, by omega, by omega, by go_num, by unfold Hid; rw [HR.out, Hd.out, lineTail, if_neg H10.out, if_neg (fun h => H45.out h.2), Ht.out]; omega⟩
              case measure => simp [intOf] <;> omega

/-- What the reference's comment returns. -/
def rComment (lang : Int) (l : List UInt8) (k : Nat) : Value :=
  if begins lang (l.drop k) = true then comRes k (commentLen lang (l.drop k)) else .tuple #[.int .i64 0, .bool false]
theorem rComment_any (lang : Int) (hlang : lang = 0 ∨ lang = 1) (s : ByteArray) (l : List UInt8) (hs : s.data.toList = l) (k : Nat) (w : World) (hm : s.size ≤ 10000) (hk : k ≤ s.size) :
    Calls Tryz.prog 69 #[.int .i64 lang, .string s, .int .i64 k] w fun e w' => e = .returned (rComment lang l k) ∧ w = w' := by
  have hl : (lang == 0) = decide (lang = 0) := by rw [Bool.eq_iff_iff]; simp
  have hmk : lineMark lang = (if decide (lang = 0) = true then [45, 45] else [47, 47] : List UInt8) := by
    unfold lineMark; rcases hlang with rfl | rfl <;> rfl
  unfold rComment begins commentLen
  cases hp : [47, 42].isPrefixOf (l.drop k) with
  | true =>
    rw [Bool.true_or, if_pos rfl, if_pos rfl, List.drop_drop]
    exact rEnclosed_any lang _ hl s l hs k w hm hp
  | false =>
    simp only [Bool.false_or, Bool.false_eq_true, if_false, List.drop_drop, hmk]
    refine (rLine_any lang _ hl s l hs k w hm hk hp).mono fun e w' h => ⟨h.1.trans ?_, h.2⟩
    unfold lineRes
    split <;> rfl
end Go.Proofs.YtknbmnckegonlaaGreatDoor
