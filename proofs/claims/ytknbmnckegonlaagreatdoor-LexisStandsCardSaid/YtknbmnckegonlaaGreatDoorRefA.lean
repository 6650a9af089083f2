/- Contracts on the reference: what stands at a place, and comments. -/
import Derived.Test.YtknbmnckegonlaaGreatDoorPlace
import Derived.Test.YtknbmnckegonlaaGreatDoorLine
namespace Go.Proofs.YtknbmnckegonlaaGreatDoor
open Go.RowKit

theorem prefix_iff (m l : List UInt8) : m.isPrefixOf l = decide (l.take m.length = m) := by
  rw [Bool.eq_iff_iff, List.isPrefixOf_iff_prefix, decide_eq_true_eq, List.prefix_iff_eq_take]
  exact ⟨fun h => h.symm, fun h => h.symm⟩
theorem has_any (s : ByteArray) (l : List UInt8) (hs : s.data.toList = l) (m : ByteArray) (lm : List UInt8) (hm : m.data.toList = lm) (k : Nat) (w : World) (hk : k ≤ 100000) (hsz : s.size ≤ 100000) (hmz : m.size ≤ 100000) (hne : 0 < m.size) :
    Calls Tryz.prog 74 #[.string s, .int .i64 k, .string m] w fun e w' => e = .returned (.bool (lm.isPrefixOf (l.drop k))) ∧ w = w' := by
  have h1 := ba_len hs
  have h2 := ba_len hm
  by_cases h : k + m.size ≤ s.size
  · have hx : (s.extract k (k + m.size)).data.toList = (l.drop k).take lm.length := by rw [ba_cut hs, ← h2]; simp
    have hb : ((s.extract k (k + m.size)).toList == m.toList) = lm.isPrefixOf (l.drop k) := by
      rw [prefix_iff, Bool.eq_iff_iff, beq_iff_eq, decide_eq_true_eq, ByteArray.toList_eq, ByteArray.toList_eq, hx, hm]
    have Hb := Lib.hid hb
    clear hx hb h1 h2 hs hm
    go_enter Tryz.func74, Tryz.ntmps74
    go_wp2_with fail
    go_ret
    exact ⟨ret_bool Hb.out, rfl⟩
  · have hb : lm.isPrefixOf (l.drop k) = false := by
      rw [prefix_iff, decide_eq_false_iff_not]
      intro he
      have := congrArg List.length he
      rw [List.length_take, List.length_drop] at this
      omega
    have Hb := Lib.hid hb
    clear hb h1 h2 hs hm
    go_enter Tryz.func74, Tryz.ntmps74
    go_wp2_with fail
    all_goals first | (exfalso; omega) | skip
    all_goals go_ret
    all_goals exact ⟨ret_bool Hb.out.symm, rfl⟩

theorem has2_any (s : ByteArray) (l : List UInt8) (hs : s.data.toList = l) (hsz : s.size ≤ 10000) (a b : UInt8) (k : Nat) (w : World) (hk : k ≤ 20000) :
    Calls Tryz.prog 74 #[.string s, .int .i64 k, .string ⟨#[a, b]⟩] w fun e w' => e = .returned (.bool ([a, b].isPrefixOf (l.drop k))) ∧ w = w' :=
  has_any s l hs ⟨#[a, b]⟩ [a, b] rfl k w (by omega) (by omega) (by show 2 ≤ 100000; omega) (by show 0 < 2; omega)
theorem two0 (a b : UInt8) : [a, b].isPrefixOf [] = false := rfl
theorem two1 (a b c : UInt8) : [a, b].isPrefixOf [c] = false := by simp [List.isPrefixOf]
theorem two2 (a b c e : UInt8) (t : List UInt8) : [a, b].isPrefixOf (c :: e :: t) = decide (c.toNat = a.toNat ∧ e.toNat = b.toNat) := by
  rw [Bool.eq_iff_iff]
  simp only [List.isPrefixOf, Bool.and_eq_true, beq_iff_eq, decide_eq_true_eq, Bool.and_true, ← UInt8.toNat_inj]
  omega
/-- What the reference says of comments at a place. -/
def comRes (k : Nat) : Option Nat → Value
  | some n => .tuple #[.int .i64 ((k + n : Nat) : Int), .bool true]
  | none => .tuple #[.int .i64 0, .bool true]
theorem rEnclosed_any (lang : Int) (nested : Bool) (hl : (lang == 0) = nested) (s : ByteArray) (l : List UInt8) (hs : s.data.toList = l) (k0 : Nat) (w : World) (hm : s.size ≤ 10000) (hp : [47, 42].isPrefixOf (l.drop k0) = true) :
    Calls Tryz.prog 69 #[.int .i64 lang, .string s, .int .i64 k0] w fun e w' => e = .returned (comRes k0 ((encl nested 1 (l.drop (k0 + 2))).map (· + 2))) ∧ w = w' := by
  have hk2 : k0 + 2 ≤ s.size := by
    have h := List.isPrefixOf_iff_prefix.1 hp
    have := h.length_le
    rw [List.length_drop, ← ba_len hs] at this
    simp at this; omega
  have Hh := Lib.hid (has2_any s l hs hm)
  have Hs := Lib.hid hs; have Hp := Lib.hid hp; clear hs hp
  go_enter Tryz.func69, Tryz.ntmps69
  go_wp2_with (go_at_call 74; refine (Hh.out _ _ k0 _ (by omega)).mono ?_; rintro e w' ⟨rfl, rfl⟩; rw [Hp.out])
  go_loop [8, 9] (fun d i => ∃ k n : Nat, k0 + 2 ≤ k ∧ k ≤ s.size ∧ 1 ≤ n ∧ n ≤ k ∧ d = .int .i64 n ∧ i = .int .i64 k ∧ Hid ((encl nested 1 (l.drop (k0 + 2))).map (· + (k0 + 2)) = (encl nested n (l.drop k)).map (· + k))) (fun _ i => s.size - (intOf i).toNat)
  case atStart => exact ⟨k0 + 2, 1, by omega, by omega, by omega, by omega, rfl, by go_num, rfl⟩
  case round =>
    obtain ⟨k, n, hk2, hk, hn1, hnk, rfl, rfl, HR⟩ := hrel
    have hz0 : ((n : Int) == 0) = false := by simp; omega
    have hz2 : ((n : Int) + 1 == 0) = false := by simp; omega
    have Hfin : Hid (comRes k0 ((encl nested 1 (l.drop (k0 + 2))).map (· + 2)) = match (encl nested n (l.drop k)).map (· + k) with | some m => .tuple #[.int .i64 (m : Int), .bool true] | none => .tuple #[.int .i64 0, .bool true]) := by
      unfold Hid
      rw [← HR.out]
      cases encl nested 1 (l.drop (k0 + 2)) with
      | none => rfl
      | some m => simp only [Option.map_some, comRes]; congr 5; omega
    rcases hd : l.drop k with _ | ⟨c, _ | ⟨e, t⟩⟩
    · have hge := ba_end Hs.out k hd
      have Hd := Lib.hid hd; clear hd
      go_wp2_with fail
      go_ret2
      exact ⟨by rw [Hfin.out, Hd.out, encl]; rfl, rfl⟩
    · obtain ⟨hlt, -, ht⟩ := ba_at Hs.out k hd
      have p1 := (congrArg (List.isPrefixOf [42, 47]) hd).trans (two1 42 47 c)
      have p2 := (congrArg (List.isPrefixOf [47, 42]) hd).trans (two1 47 42 c)
      have P1 := Lib.hid p1; have P2 := Lib.hid p2
      have Hd := Lib.hid hd; have Ht := Lib.hid ht; clear hd ht p1 p2
      have hne : Hid ((encl nested 1 (l.drop (k0 + 2))).map (· + (k0 + 2)) = (encl nested n (l.drop (k + 1))).map (· + (k + 1))) := by
        unfold Hid; rw [HR.out, Hd.out, Ht.out, encl, encl]; rfl
      rcases nested
      all_goals
        go_wp2_with (go_at_call 74; refine (Hh.out _ _ k _ (by omega)).mono ?_; rintro e w' ⟨rfl, rfl⟩; first | rw [P1.out] | rw [P2.out])
        go_round
        case rel => exact ⟨k + 1, n, by omega, by omega, by omega, by omega, rfl, by go_num, hne⟩
        case measure => simp [intOf]; omega
    · obtain ⟨hlt, -, ht⟩ := ba_at Hs.out k hd
      obtain ⟨hlt2, -, ht2⟩ := ba_at Hs.out (k + 1) ht
      have p1 : [42, 47].isPrefixOf (l.drop k) = decide (c.toNat = 42 ∧ e.toNat = 47) := (congrArg (List.isPrefixOf [42, 47]) hd).trans (two2 42 47 c e t)
      have p2 : [47, 42].isPrefixOf (l.drop k) = decide (c.toNat = 47 ∧ e.toNat = 42) := (congrArg (List.isPrefixOf [47, 42]) hd).trans (two2 47 42 c e t)
      have hee : encl nested n (c :: e :: t) = if c.toNat = 42 ∧ e.toNat = 47 then (if n ≤ 1 then some 2 else (encl nested (n - 1) t).map (· + 2))
          else if nested = true ∧ c.toNat = 47 ∧ e.toNat = 42 then (encl nested (n + 1) t).map (· + 2) else (encl nested n (e :: t)).map (· + 1) := by rw [encl]
      have Hd := Lib.hid hd; have Ht := Lib.hid ht; have Ht2 := Lib.hid ht2; clear hd ht ht2
      by_cases hA : c.toNat = 42 ∧ e.toNat = 47
      · rw [if_pos hA] at hee
        rw [decide_eq_true hA] at p1
        have P1 := Lib.hid p1
        clear p1 p2 hA
        by_cases hn : n ≤ 1
        · have hzz : ((n : Int) - 1 == 0) = true := by simp; omega
          rw [if_pos hn] at hee
          have Hee := Lib.hid hee; clear hee
          go_wp2_with (go_at_call 74; refine (Hh.out _ _ k _ (by omega)).mono ?_; rintro e w' ⟨rfl, rfl⟩; rw [P1.out])
          go_ret2
          refine ⟨?_, rfl⟩
          rw [Hfin.out, Hd.out, Hee.out]
          simp; omega
        · have hzz : ((n : Int) - 1 == 0) = false := by simp; omega
          rw [if_neg hn] at hee
          have Hee := Lib.hid hee; clear hee
          go_wp2_with (go_at_call 74; refine (Hh.out _ _ k _ (by omega)).mono ?_; rintro e w' ⟨rfl, rfl⟩; rw [P1.out])
          go_round
          case rel =>
            refine ⟨k + 2, n - 1, by omega, by omega, by omega, by omega, by congr 1 <;> omega, by congr 1 <;> omega, ?_⟩
            unfold Hid
            rw [HR.out, Hd.out, Hee.out, Ht2.out, Option.map_map]
            congr 1; funext x; simp; omega
          case measure => simp [intOf]; omega
      · rw [if_neg hA] at hee
        rw [decide_eq_false hA] at p1
        have P1 := Lib.hid p1
        clear hA p1
        by_cases hB : nested = true ∧ c.toNat = 47 ∧ e.toNat = 42
        · rw [if_pos hB] at hee
          rw [decide_eq_true hB.2] at p2
          have P2 := Lib.hid p2; clear p2
          obtain ⟨rfl, -⟩ := hB
          have Hee := Lib.hid hee; clear hee
          go_wp2_with (go_at_call 74; refine (Hh.out _ _ k _ (by omega)).mono ?_; rintro e w' ⟨rfl, rfl⟩; first | rw [P1.out] | rw [P2.out])
          go_round
          case rel =>
            refine ⟨k + 2, n + 1, by omega, by omega, by omega, by omega, by congr 1 <;> omega, by congr 1 <;> omega, ?_⟩
            unfold Hid
            rw [HR.out, Hd.out, Hee.out, Ht2.out, Option.map_map]
            congr 1; funext x; simp; omega
          case measure => simp [intOf]; omega
        · rw [if_neg hB] at hee
          have Hee := Lib.hid hee; clear hee
          have hne : Hid ((encl nested 1 (l.drop (k0 + 2))).map (· + (k0 + 2)) = (encl nested n (l.drop (k + 1))).map (· + (k + 1))) := by
            unfold Hid; rw [HR.out, Hd.out, Ht.out, Hee.out, Option.map_map]; congr 1; funext x; simp; omega
          rcases nested with _ | _
          · clear p2 hB
            go_wp2_with (go_at_call 74; refine (Hh.out _ _ k _ (by omega)).mono ?_; rintro e w' ⟨rfl, rfl⟩; rw [P1.out])
            go_round
            case rel => exact ⟨k + 1, n, by omega, by omega, by omega, by omega, rfl, by go_num, hne⟩
            case measure => simp [intOf]; omega
          · rw [decide_eq_false (fun h => hB ⟨rfl, h⟩)] at p2
            have P2 := Lib.hid p2; clear p2
            clear hB
            go_wp2_with (go_at_call 74; refine (Hh.out _ _ k _ (by omega)).mono ?_; rintro e w' ⟨rfl, rfl⟩; first | rw [P1.out] | rw [P2.out])
            go_round
            case rel => exact ⟨k + 1, n, by omega, by omega, by omega, by omega, rfl, by go_num, hne⟩
            case measure => simp [intOf]; omega
end Go.Proofs.YtknbmnckegonlaaGreatDoor
