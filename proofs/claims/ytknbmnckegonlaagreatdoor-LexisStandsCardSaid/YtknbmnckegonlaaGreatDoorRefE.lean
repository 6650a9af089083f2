/- Contracts on the reference: strings between quotation marks. -/
import Derived.Test.YtknbmnckegonlaaGreatDoorRefD
namespace Go.Proofs.YtknbmnckegonlaaGreatDoor
open Go.RowKit

theorem charsEnd_two (c d : UInt8) (t : List UInt8) (hc : c.toNat = 34) (hd : d.toNat = 34) : charsEnd (c :: d :: t) = (charsEnd t).map (· + 2) := by
  rw [charsEnd, if_pos hc, if_pos hd]
theorem charsEnd_one (c : UInt8) (t : List UInt8) (hc : c.toNat = 34) (hd : t.head? ≠ some 34) : charsEnd (c :: t) = some 1 := by
  cases t with
  | nil => rw [charsEnd, if_pos hc]
  | cons d r => rw [charsEnd, if_pos hc, if_neg (fun h => hd (by rw [List.head?_cons, Option.some.injEq, ← UInt8.toNat_inj]; exact h))]
theorem charsEnd_line (c : UInt8) (t : List UInt8) (hc : c.toNat = 10 ∨ c.toNat = 9) : charsEnd (c :: t) = none := by
  cases t with
  | nil => rw [charsEnd, if_neg (by omega)]
  | cons d r => rw [charsEnd, if_neg (by omega), if_pos hc]
theorem charsEnd_step (c : UInt8) (t : List UInt8) (h1 : c.toNat ≠ 34) (h2 : ¬ (c.toNat = 10 ∨ c.toNat = 9)) : charsEnd (c :: t) = (charsEnd t).map (· + 1) := by
  cases t with
  | nil => show charsEnd [c] = none; rw [charsEnd, if_neg h1]
  | cons d r => rw [charsEnd, if_neg h1, if_neg h2]
/-- What the reference's quoted returns. -/
def quotedRes (K : Nat) : Option Nat → Value
  | none => .agg #[.int .i64 0, .int .i64 0, .bool false, .int .i64 39]
  | some n => .agg #[.int .i64 3, .int .i64 ((K + n + 1 : Nat) : Int), .bool false, .int .i64 (if 201 < n then 2 else 0)]
set_option maxRecDepth 100000 in
set_option maxHeartbeats 2000000 in
theorem quoted_any (s : ByteArray) (l : List UInt8) (hs : s.data.toList = l) (K : Nat) (w : World) (hm : s.size ≤ 10000) (hK : K < s.size) :
    Calls Tryz.prog 72 #[.string s, .int .i64 K] w fun e w' => e = .returned (quotedRes K (charsEnd (l.drop (K + 1)))) ∧ Fr w.heap.size w w' := by
  have Hh := Lib.hid (has2_any s l hs hm)
  have Hs := Lib.hid hs; clear hs
  have hf := Fr.self w
  go_enter Tryz.func72, Tryz.ntmps72
  go_wp2_with fail
  go_loop [5] (fun i => ∃ k : Nat, K + 1 ≤ k ∧ k ≤ s.size ∧ i = .int .i64 k ∧ Hid (charsEnd (l.drop (K + 1)) = (charsEnd (l.drop k)).map (· + (k - (K + 1))))) (fun i => s.size - (intOf i).toNat)
  case atStart => exact ⟨K + 1, by omega, by omega, by go_num, by unfold Hid; simp⟩
  case round =>
    obtain ⟨k, hk1, hk, rfl, HR⟩ := hrel
    rcases hd : l.drop k with _ | ⟨c, t⟩
    · have hge := ba_end Hs.out k hd
      have Hr : Hid (quotedRes K (charsEnd (l.drop (K + 1))) = .agg #[.int .i64 0, .int .i64 0, .bool false, .int .i64 39]) := by
        unfold Hid; rw [HR.out, hd, charsEnd]; rfl
      clear hd
      go_wp2_with fail
      exact bodyPost_ret (piece_res rfl rfl (heap_alloc_new _ _)) rfl ⟨by rw [Hr.out], hf.alloc _⟩
    · obtain ⟨hlt, hc, ht⟩ := ba_at Hs.out k hd
      by_cases h34 : c.toNat = 34
      · have hb : ((s[k].toNat : Int) == 34) = true := by rw [hc]; simp; omega
        have hb1 : ((s[k].toNat : Int) != 10) = true := by rw [hc]; simp; omega
        have hb2 : ((s[k].toNat : Int) != 9) = true := by rw [hc]; simp; omega
        by_cases hq : t.head? = some 34
        · obtain ⟨d, r, htt, hd34⟩ : ∃ d r, t = d :: r ∧ d.toNat = 34 := by
            cases t with
            | nil => cases hq
            | cons d r => rw [List.head?_cons, Option.some.injEq] at hq; exact ⟨d, r, rfl, by rw [hq]; rfl⟩
          have hp : [34, 34].isPrefixOf (l.drop k) = true := by rw [hd, htt, two2, decide_eq_true_eq]; exact ⟨h34, hd34⟩
          obtain ⟨hlt2, -, ht2⟩ := ba_at Hs.out (k + 1) (ht.trans htt)
          have Hn : Hid (charsEnd (l.drop (K + 1)) = (charsEnd (l.drop (k + 1 + 1))).map (· + (k + 2 - (K + 1)))) := by
            unfold Hid; rw [HR.out, hd, htt, charsEnd_two c d r h34 hd34, ht2, Option.map_map]; congr 1; funext x; simp; omega
          have Hp := Lib.hid hp
          clear hd ht ht2 hp hc h34 hq htt
          go_wp2_with (go_at_call 74; refine (Hh.out _ _ k _ (by omega)).mono ?_; rintro e w' ⟨rfl, rfl⟩; rw [Hp.out])
          go_round
          case rel => exact ⟨k + 2, by omega, by omega, by go_num, Hn⟩
          case measure => simp [intOf] <;> omega
        · have hp : [34, 34].isPrefixOf (l.drop k) = false := by
            rw [hd]
            cases t with
            | nil => rw [two1]
            | cons d r =>
              rw [two2, decide_eq_false_iff_not]
              exact fun h => hq (by rw [List.head?_cons, Option.some.injEq, ← UInt8.toNat_inj]; exact h.2)
          have Hr : Hid (charsEnd (l.drop (K + 1)) = some (k - K)) := by
            unfold Hid; rw [HR.out, hd, charsEnd_one c t h34 hq, Option.map_some]; congr 1; omega
          have Hp := Lib.hid hp
          clear hd ht hp hc h34 hq
          by_cases hbig : 201 < k - K
          · have Hr2 : Hid (quotedRes K (charsEnd (l.drop (K + 1))) = .agg #[.int .i64 3, .int .i64 ((k : Int) + 1), .bool false, .int .i64 2]) := by
              have e : ((K + (k - K) + 1 : Nat) : Int) = (k : Int) + 1 := by omega
              unfold Hid; rw [Hr.out, quotedRes, if_pos hbig, e]
            go_wp2_with (go_at_call 74; refine (Hh.out _ _ k _ (by omega)).mono ?_; rintro e w' ⟨rfl, rfl⟩; rw [Hp.out])
            exact bodyPost_ret (piece_res rfl rfl (heap_alloc2_old _ _ _)) rfl ⟨by rw [Hr2.out], (hf.alloc _).alloc _⟩
          · have Hr2 : Hid (quotedRes K (charsEnd (l.drop (K + 1))) = .agg #[.int .i64 3, .int .i64 ((k : Int) + 1), .bool false, .int .i64 0]) := by
              have e : ((K + (k - K) + 1 : Nat) : Int) = (k : Int) + 1 := by omega
              unfold Hid; rw [Hr.out, quotedRes, if_neg hbig, e]
            go_wp2_with (go_at_call 74; refine (Hh.out _ _ k _ (by omega)).mono ?_; rintro e w' ⟨rfl, rfl⟩; rw [Hp.out])
            exact bodyPost_ret (piece_res rfl rfl (heap_alloc2_old _ _ _)) rfl ⟨by rw [Hr2.out], (hf.alloc _).alloc _⟩
      · by_cases hl : c.toNat = 10 ∨ c.toNat = 9
        · have Hr : Hid (quotedRes K (charsEnd (l.drop (K + 1))) = .agg #[.int .i64 0, .int .i64 0, .bool false, .int .i64 39]) := by
            unfold Hid; rw [HR.out, hd, charsEnd_line c t hl]; rfl
          rcases hl with hl | hl
          · have hb1 : ((s[k].toNat : Int) != 10) = false := by rw [hc]; simp; omega
            clear hd ht hc h34 hl
            go_wp2_with fail
            exact bodyPost_ret (piece_res rfl rfl (heap_alloc_new _ _)) rfl ⟨by rw [Hr.out], hf.alloc _⟩
          · have hb1 : ((s[k].toNat : Int) != 10) = true := by rw [hc]; simp; omega
            have hb2 : ((s[k].toNat : Int) != 9) = false := by rw [hc]; simp; omega
            clear hd ht hc h34 hl
            go_wp2_with fail
            exact bodyPost_ret (piece_res rfl rfl (heap_alloc_new _ _)) rfl ⟨by rw [Hr.out], hf.alloc _⟩
        · have hb : ((s[k].toNat : Int) == 34) = false := by rw [hc]; simp; omega
          have hb1 : ((s[k].toNat : Int) != 10) = true := by rw [hc]; simp; omega
          have hb2 : ((s[k].toNat : Int) != 9) = true := by rw [hc]; simp; omega
          have Hn : Hid (charsEnd (l.drop (K + 1)) = (charsEnd (l.drop (k + 1))).map (· + (k + 1 - (K + 1)))) := by
            unfold Hid; rw [HR.out, hd, charsEnd_step c t h34 hl, ht, Option.map_map]; congr 1; funext x; simp; omega
          clear hd ht hc h34 hl
          go_wp2_with fail
          go_round
          case rel => exact ⟨k + 1, by omega, by omega, by go_num, Hn⟩
          case measure => simp [intOf] <;> omega
end Go.Proofs.YtknbmnckegonlaaGreatDoor
